/- Is each content that is held there, and nothing else? No condition. -/
import Derived.Test.YtjodkgbpbibfbaaDdJ
import Derived.Test.YtjodkgbpbibfbaaDdH
import Derived.Deep.RegionHeld3
namespace Go.Proofs.Ytjodkgbpbibfbaa
open Go.RowKit

/-- How many of the first ones are held. -/
def liveN (A : List HdV) (k : Nat) : Nat := ((A.take k).filter fun x => decide (0 < x.r)).length
theorem liveN_zero (A : List HdV) : liveN A 0 = 0 := rfl
theorem liveN_all (A : List HdV) : liveN A A.length = (A.filter fun x => decide (0 < x.r)).length := by unfold liveN; rw [List.take_length]
theorem liveN_no {A : List HdV} {k : Nat} (hk : k < A.length) (h : A[k].r = 0) : liveN A (k + 1) = liveN A k := by
  unfold liveN
  rw [List.take_add_one, List.getElem?_eq_getElem hk, List.filter_append, List.length_append]
  simp [h]
theorem liveN_yes {A : List HdV} {k : Nat} (hk : k < A.length) (h : 0 < A[k].r) : liveN A (k + 1) = liveN A k + 1 := by
  unfold liveN
  rw [List.take_add_one, List.getElem?_eq_getElem hk, List.filter_append, List.length_append]
  simp [h]
theorem liveN_le (A : List HdV) (k : Nat) : liveN A k ≤ A.length := by
  unfold liveN
  exact Nat.le_trans (List.length_filter_le _ _) (by rw [List.length_take]; omega)
set_option maxRecDepth 100000 in
set_option maxHeartbeats 8000000 in
theorem kept_any (b : Nat) (T : TbV) (fp : Nat → Prop) (v : Value) (A : List HdV) (w : World) (h : TabM w b T fp) (ho : OwnH w v A) (hI : OnI T A) (hA : A.length ≤ 1000) (hs : ∀ x ∈ A, x.s.length ≤ 1000) :
    Calls Try.prog 22 #[.pointer (some ⟨b, 0, none⟩), v] w fun e w' => e = .returned (.bool true) ∧ Frm (fun _ => False) w w' := by
  have hTl : T.L.length ≤ 1000 := by rw [hI.count]; exact Nat.le_trans (List.length_filter_le _ _) hA
  obtain ⟨a, cap, rfl, hc1, hc2⟩ := ho.slice
  unfold maxLen at hc2
  have HO := Lib.hid ho
  have HT := Lib.hid h
  have HI := Lib.hid hI
  have HS := Lib.hid hs
  have hn2 := h.ok.n2
  have hcount := hI.count
  rw [← liveN_all] at hcount
  have HCt := Lib.hid fun (W : World) (f : Frm (fun _ => False) w W) => tcount_any b T fp W (h.keepF f)
  have HLc := Lib.hid hcount
  clear h ho hI hs hcount
  go_enter Try.func22, Try.ntmps22
  go_wp2_with fail
  go_loopw [5, 6] (fun n i wr => ∃ k : Nat, k ≤ A.length ∧ i = .int .i64 (k : Nat) ∧ n = .int .i64 (liveN A k : Nat) ∧ Frm (fun _ => False) w wr) (fun _ i _ => A.length - (intOf i).toNat)
  case atStart => exact ⟨0, Nat.zero_le _, rfl, rfl, Frm.refl _ _⟩
  case round =>
    obtain ⟨k, hk, rfl, rfl, g0⟩ := hrel
    have hle := liveN_le A k
    by_cases hlt : k < A.length
    · have hki : (k : Int) < (A.length : Int) := by omega
      have hk0 : (0 : Int) ≤ (k : Int) := by omega
      obtain ⟨g, rfl, hg, d0, d1, d2, d3, _⟩ := (HO.out.keepF g0).at_ k hlt
      have hm := List.getElem_mem hlt
      have hxs := HS.out _ hm
      have hxl := HI.out.lt _ hm
      obtain ⟨x, hx⟩ : ∃ x, A[k] = x := ⟨_, rfl⟩
      have G0 := Lib.hid g0
      by_cases hr : x.r = 0
      · have hgt : T.get x.id = none := by rw [← hx]; exact HI.out.get_dead hm (by rw [hx]; exact hr)
        have hfd : (T.fid x.s).getD 0 = 0 := by rw [HI.out.fid_none (HI.out.dead_only hm (by rw [hx]; exact hr) |> fun h y hy e => h y hy (by rw [hx]; exact e))]; rfl
        have hnx := liveN_no hlt (by rw [hx]; exact hr)
        rw [hx] at d0 d1 d2 d3 hxs hxl
        have HGt := get_any b x.id T fp (by omega) wr (HT.out.keepF g0)
        rw [hgt] at HGt
        have HG := Lib.hid (show Calls Try.prog 30 #[.pointer (some ⟨b, 0, none⟩), .int .u32 (x.id : Nat)] wr fun e w' => e = .returned (.tuple #[.string ⟨#[]⟩, .int .i64 0, .int .i64 0, .bool false]) ∧ Frm (fun _ => False) wr w' from HGt)
        have HF := Lib.hid fun (W : World) (f : Frm (fun _ => False) w W) => finds_fid (fp := fp) (b := b) x.s (by omega) (by omega) 0 hfd (HT.out.keepF f)
        have hr0 : (x.r : Int) = 0 := by omega
        rw [hr0] at d3
        have HN := Lib.hid hnx
        have D := Lib.hid (And.intro d0 (And.intro d1 (And.intro d2 d3)))
        clear hgt hfd hnx hr hm hx hxl HGt g0 hr0
        go_wp2_with fail
        refine HG.out.mono ?_
        rintro e w1 ⟨rfl, g1⟩
        have e0 := g1.cellF D.out.1
        have e3 := g1.cellF D.out.2.2.2
        have HF1 := Lib.hid (HF.out w1 (G0.out.trans g1))
        have G1 := Lib.hid (G0.out.trans g1)
        clear d0 d1 d2 d3 g1 HF HG D
        go_wp2_with fail
        refine HF1.out.mono ?_
        rintro e w2 ⟨rfl, g2⟩
        have G2 := Lib.hid (G1.out.trans g2)
        clear e0 e3 g2 HF1
        go_wp2_with fail
        go_roundw
        case rel => exact ⟨k + 1, by omega, by go_num, by rw [HN.out], G2.out⟩
        case measure => simp [intOf]; omega
      · have hr1 : 0 < x.r := by omega
        have hgt : T.get x.id = some x.ch := by rw [← hx]; exact HI.out.get_live hm (by rw [hx]; exact hr1)
        have hfd : (T.fid x.s).getD 0 = x.id := by
          have := HI.out.fid_live hm (by rw [hx]; exact hr1)
          rw [hx] at this
          rw [this]; rfl
        have hnx := liveN_yes hlt (by rw [hx]; exact hr1)
        rw [hx] at d0 d1 d2 d3 hxs hxl
        have HGt := get_any b x.id T fp (by omega) wr (HT.out.keepF g0)
        rw [hgt] at HGt
        have HG := Lib.hid (show Calls Try.prog 30 #[.pointer (some ⟨b, 0, none⟩), .int .u32 (x.id : Nat)] wr fun e w' => e = .returned (.tuple #[.string (bs x.s), .int .i64 x.b, .int .i64 (x.r : Nat), .bool true]) ∧ Frm (fun _ => False) wr w' from HGt)
        obtain ⟨z, hz⟩ : ∃ z : Int, (x.r : Int) = z := ⟨_, rfl⟩
        rw [hz] at HG d3
        have hz0 : (z == 0) = false := by rw [beq_eq_false_iff_ne]; omega
        have q1 : ((bs x.s).toList != (bs x.s).toList) = false := bne_self_eq_false _
        have q2 : (x.b != x.b) = false := bne_self_eq_false _
        have q3 : (z != z) = false := bne_self_eq_false _
        have HF := Lib.hid fun (W : World) (f : Frm (fun _ => False) w W) => finds_fid (fp := fp) (b := b) x.s (by omega) (by omega) x.id hfd (HT.out.keepF f)
        have HN := Lib.hid hnx
        have D := Lib.hid (And.intro d0 (And.intro d1 (And.intro d2 d3)))
        clear hgt hfd hnx hr hr1 hm hx hxl HGt g0 hz
        go_wp2_with fail
        refine HG.out.mono ?_
        rintro e w1 ⟨rfl, g1⟩
        have e0 := g1.cellF D.out.1
        have e1 := g1.cellF D.out.2.1
        have e2 := g1.cellF D.out.2.2.1
        have e3 := g1.cellF D.out.2.2.2
        have HF1 := Lib.hid fun (W : World) (f : Frm (fun _ => False) w1 W) => HF.out W ((G0.out.trans g1).trans f)
        have G1 := Lib.hid (G0.out.trans g1)
        clear d0 d1 d2 d3 g1 HF HG D
        go_upto_region 10 with fail
        have f0 := Frm.refl (fun _ => False) w1
        go_region_held3 (fun w' => w'.cell? ⟨g, k * 4, none⟩ = some (.string (bs x.s)) ∧ w'.cell? ⟨g, k * 4 + 1, none⟩ = some (.int .u32 (x.id : Nat)) ∧ w'.cell? ⟨g, k * 4 + 2, none⟩ = some (.int .i64 x.b) ∧ w'.cell? ⟨g, k * 4 + 3, none⟩ = some (.int .i64 z) ∧ Frm (fun _ => False) w1 w')
          (((try dsimp only); (try go_split_ands); (repeat' apply And.intro) <;> (first
            | assumption
            | exact Frm.drew (by assumption)
            | exact Frm.cellF gg (by assumption)
            | (refine Frm.trans ?_ gg; assumption)
            | go_keep)))
          (first
            | (go_at_call 25; (with_reducible refine (HF1.out _ (And.right (And.right (And.right (And.right (by assumption)))))).mono ?_); rintro e ww ⟨rfl, gg⟩))
        all_goals
          rename_i hH
          have G2 := Lib.hid (G1.out.trans hH.2.2.2.2)
          clear hH gg e0 e1 e2 e3 HF1
          go_wp2_with fail
          go_roundw
          case rel => exact ⟨k + 1, by omega, by go_num, by rw [HN.out]; rfl, G2.out⟩
          case measure => simp [intOf]; omega
    · obtain rfl : k = A.length := by omega
      have hki : ¬ ((A.length : Nat) : Int) < (A.length : Int) := by omega
      have HC1 := HCt.out wr g0
      rw [HLc.out] at HC1
      have HC2 := Lib.hid HC1
      have q : ((liveN A A.length : Nat) : Int) = ((liveN A A.length : Nat) : Int) := rfl
      have G0 := Lib.hid g0
      clear HC1 q g0
      go_wp2_with fail
      refine HC2.out.mono ?_
      rintro e w1 ⟨rfl, rfl⟩
      have q : (((liveN A A.length : Nat) : Int) == ((liveN A A.length : Nat) : Int)) = true := by simp
      go_wp2_with fail
      go_ret
      exact ⟨rfl, G0.out⟩
end Go.Proofs.Ytjodkgbpbibfbaa
