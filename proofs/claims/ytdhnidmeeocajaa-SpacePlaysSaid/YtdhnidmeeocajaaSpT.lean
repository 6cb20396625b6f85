/- The document's All, Load, Copy. No condition. -/
import Derived.Test.YtdhnidmeeocajaaSpS
namespace Go.Proofs.Ytdhnidmeeocajaa
open Go.RowKit Go.Shelf

/-- Numbers of blocks, as ints. -/
def zs15 (l : List Nat) : List Int := l.map fun i : Nat => (i : Int)
theorem zs15_app (l m : List Nat) : zs15 (l ++ m) = zs15 l ++ zs15 m := List.map_append
theorem zs15_len (l : List Nat) : (zs15 l).length = l.length := List.length_map _
set_option maxRecDepth 100000 in
set_option maxHeartbeats 4000000 in
theorem rfall_any (r : Nat) (S : SpV) (L : List Int) (v : Value) (w : World) (h : RfM w r S L v) :
    Calls Try.prog 19 #[.pointer (some ⟨r, 0, none⟩)] w fun e w' => ∃ v', e = .returned v' ∧ OwnI w' v' (zs15 S.all) ∧ (∀ b, v'.ownBlock = some b → w.heap.size ≤ b) ∧ Frm (fun _ => False) w w' := by
  have c0 := h.blk.cell 0 rfl
  have hlo := h.ok.lo
  have hhi := h.ok.hi
  have H := Lib.hid h
  clear h
  go_enter Try.func19, Try.ntmps19
  go_wp2_with fail
  go_loopw [4, 3] (fun i lv wr => ∃ k : Nat, S.a ≤ k ∧ k ≤ S.n ∧ i = .int .i64 (k : Nat) ∧ OwnI wr lv (zs15 (S.done k)) ∧ (∀ b, lv.ownBlock = some b → w.heap.size ≤ b) ∧ Frm (fun _ => False) w wr) (fun i _ _ => S.n - (intOf i).toNat)
  case atStart => exact ⟨S.a, Nat.le_refl _, by omega, rfl, by rw [SpV.done_low H.out.ok _ (Nat.le_refl _)]; exact OwnI.nil_ _, (fun b hb => by cases hb), Frm.refl _ _⟩
  case round =>
    obtain ⟨k, hk1, hk2, rfl, hown, hfr, gr⟩ := hrel
    have hR := H.out.keepF gr
    have d1 := hR.blk.cell 1 rfl
    have hdl := S.done_len k
    obtain ⟨la, lc, rfl, hl1, hl2⟩ := hown.slice
    unfold maxLen at hl2
    have hzl : (zs15 (S.done k)).length ≤ k := by rw [zs15_len]; exact hdl
    clear hdl
    by_cases hlt : k < S.n
    · have hki : (k : Int) < (S.n : Int) := by omega
      have ha := rfat_any r S L v (k : Int) wr hR
      have hds := S.done_succ k
      cases hf : S.F k with
      | true =>
        rw [atL_free H.out.lst hf] at ha
        rw [hf, if_pos rfl] at hds
        have HA := Lib.hid ha
        obtain ⟨v', w2, hrun, hrow, hgr, hnew⟩ := append_is (wr.alloc (.cells #[.int .i64 (k : Nat)] 3)) _ _ (zs15 (S.done k)) [(k : Int)] (hown.keepF ((Frm.refl _ wr).alloc _)) (Zs.lit wr (k : Int)) (by simp; omega)
        have ga : Frm (fun _ => False) wr (wr.alloc (.cells #[.int .i64 (k : Nat)] 3)) := (Frm.refl _ wr).alloc _
        have hz := ga.size
        have hgs := gr.size
        have g2 : Frm (fun q => w.heap.size ≤ q) wr w2 := (ga.mono fun _ _ h => h.elim).grown hgr (fun q hq e => hfr q e)
        have gw : Frm (fun _ => False) w w2 := gr.next g2 (fun q hq e => by omega)
        have n2 : ∀ b, v'.ownBlock = some b → w.heap.size ≤ b := fun b hb => (hnew b hb).elim (hfr b) (fun h => by omega)
        have e1 : zs15 (S.done (k + 1)) = zs15 (S.done k) ++ [(k : Int)] := by rw [hds, zs15_app]; rfl
        rw [← e1] at hrow
        have Hrun := Lib.hid hrun
        obtain ⟨a2, cap2, rfl, _, _⟩ := hrow.slice
        have H2 := Lib.hid (And.intro hrow (And.intro n2 gw))
        have e2 : (zs15 (S.done (k + 1))).length = (zs15 (S.done k)).length + 1 := by rw [e1]; simp
        rw [e2] at Hrun H2
        clear ha hds hf hrow hgr hnew hrun ga hz hgs g2 gw n2 e1 e2 hown hfr gr hR
        go_wp2_with fail
        refine HA.out.mono ?_
        rintro e w1 ⟨rfl, rfl⟩
        go_wp2_with (first | (at_builtin; refine Lib.wpList_append_run _ rfl _ _ _ _ rfl _ _ rfl rfl _ _ Hrun.out ?_) | fail)
        go_roundw
        case rel => exact ⟨k + 1, by omega, by omega, by go_num, H2.out.1, H2.out.2.1, H2.out.2.2⟩
        case measure => simp [intOf]; omega
      | false =>
        obtain ⟨i, hi2, hil, _⟩ := atL_used H.out.lst hk1 hlt hf
        rw [hi2] at ha
        rw [hf, if_neg (by decide), List.append_nil] at hds
        have HA := Lib.hid ha
        have hin : ¬ (i : Int) < 0 := by omega
        have H2 := Lib.hid (And.intro (show OwnI wr (.slice la (zs15 (S.done k)).length lc) (zs15 (S.done (k + 1))) by rw [hds]; exact hown) (And.intro hfr gr))
        clear ha hds hf hi2 hown hfr gr hR
        go_wp2_with fail
        refine HA.out.mono ?_
        rintro e w1 ⟨rfl, rfl⟩
        go_wp2_with fail
        go_roundw
        case rel => exact ⟨k + 1, by omega, by omega, by go_num, H2.out.1, H2.out.2.1, H2.out.2.2⟩
        case measure => simp [intOf]; omega
    · obtain rfl : k = S.n := by omega
      have H2 := Lib.hid (And.intro hown (And.intro hfr gr))
      clear hown hfr gr hR
      go_wp2_with fail
      go_ret
      exact ⟨_, rfl, H2.out.1, H2.out.2.1, H2.out.2.2⟩
/-- A new space of the document. -/
def NewRf (S : SpV) (w : World) (v : Value) (w' : World) : Prop := ∃ r L u, v = .pointer (some ⟨r, 0, none⟩) ∧ RfM w' r S L u ∧ w.heap.size ≤ r ∧ (∀ b, u.ownBlock = some b → w.heap.size ≤ b) ∧ Frm (fun _ => False) w w'
def RLoadEnd (R : Option SpV) (w : World) (e : Ending) (w' : World) : Prop := match R with
  | some S => ∃ v, e = .returned (.tuple #[v, .int .i64 0]) ∧ NewRf S w v w'
  | none => e = .returned (.tuple #[.pointer none, .int .i64 4]) ∧ Frm (fun _ => False) w w'
/-- What the document's Load answers. -/
def RLoadTo (a n : Int) (l : List Int) (w : World) (e : Ending) (w' : World) : Prop :=
  if maySp a n then RLoadEnd ((SpV.new a.toNat n.toNat).loadU l) w e w'
  else e = .returned (.tuple #[.pointer none, .int .i64 2]) ∧ w = w'
set_option maxRecDepth 100000 in
set_option maxHeartbeats 4000000 in
theorem rfload_any (a n : Int) (v : Value) (l : List Int) (w : World) (hv : Zs w v l) : Calls Try.prog 8 #[.int .i64 a, .int .i64 n, v] w (RLoadTo a n l w) := by
  have HM := rfmay_any a n w
  unfold RLoadTo
  obtain ⟨ad, cap, rfl, hc1, hc2⟩ := hv.slice
  unfold maxLen at hc2
  cases hm : maySp a n with
  | false =>
    rw [hm] at HM
    simp only [Bool.false_eq_true, if_false]
    have HM := Lib.hid HM
    clear hm hv
    go_enter Try.func8, Try.ntmps8
    go_wp2_with fail
    refine HM.out.mono ?_
    rintro e w1 ⟨rfl, rfl⟩
    go_wp2_with fail
    go_ret2
    exact ⟨rfl, rfl⟩
  | true =>
    rw [hm] at HM
    simp only [if_true]
    have HM := Lib.hid HM
    obtain ⟨A, N, rfl, rfl, h1, h2⟩ := maySp_nat hm
    rw [Int.toNat_natCast, Int.toNat_natCast]
    obtain ⟨R, hR⟩ : ∃ R, (SpV.new A N).loadU l = R := ⟨_, rfl⟩
    rw [hR]
    have HR := Lib.hid hR
    have hl : l.length ≤ 9223372036854775807 := by omega
    have gm : Frm (fun _ => False) w (w.alloc (.cells #[.int .i64 (A : Nat), .int .i64 (N : Nat), .slice none 0 0] 45)) := (Frm.refl _ w).alloc _
    have bm := Blk.alloc w 45 #[.int .i64 (A : Nat), .int .i64 (N : Nat), .slice none 0 0]
    have hI : RfM (w.alloc (.cells #[.int .i64 (A : Nat), .int .i64 (N : Nat), .slice none 0 0] 45)) w.heap.size (SpV.new A N) [] (.slice none 0 0) :=
      ⟨SpV.new_ok h1 h2, Lst.new A N, bm, OwnI.nil_ _, fun b hb => by cases hb⟩
    obtain ⟨w1, hw1⟩ : ∃ w1, w.alloc (.cells #[.int .i64 (A : Nat), .int .i64 (N : Nat), .slice none 0 0] 45) = w1 := ⟨_, rfl⟩
    obtain ⟨r, hr⟩ : ∃ r, w.heap.size = r := ⟨_, rfl⟩
    rw [hw1] at gm hI
    rw [hr] at hI
    have HI := Lib.hid (And.intro hI (And.intro gm hr))
    have HV := Lib.hid hv
    clear hm hv hR gm bm hI
    go_enter Try.func8, Try.ntmps8
    go_wp2_with fail
    refine HM.out.mono ?_
    rintro e wz ⟨rfl, rfl⟩
    go_wp2_with fail
    clear hw1 hr
    go_loopw [9] (fun i wr => ∃ (k : Nat) (S : SpV) (L : List Int) (u : Value), k ≤ l.length ∧ i = .int .i64 (k : Nat) ∧ (SpV.new A N).loadU (l.take k) = some S ∧ RfM wr r S L u ∧ (∀ b, u.ownBlock = some b → w.heap.size ≤ b) ∧ Frm (fun _ => False) w wr) (fun i _ => l.length - (intOf i).toNat)
    case atStart => exact ⟨0, _, [], _, Nat.zero_le _, rfl, by rw [List.take_zero]; rfl, HI.out.1, (fun b hb => by cases hb), HI.out.2.1⟩
    case round =>
      obtain ⟨k, S, L, u, hk, rfl, hld, hR, hfr, gr⟩ := hrel
      have hrw : w.heap.size ≤ r := by have := HI.out.2.2; omega
      by_cases hlt : k < l.length
      · have hki : (k : Int) < (l.length : Int) := by omega
        obtain ⟨gb, off, rfl, hgb, c0⟩ := Zs.at (HV.out.keepF gr) k hlt
        have hst := (SpV.new A N).loadU_step l k hlt hld
        have hu := rfuse_any r S L u l[k] wr hR
        obtain ⟨⟨S1, ec⟩, hrr⟩ : ∃ t, S.use l[k] = t := ⟨_, rfl⟩
        rw [hrr] at hu hst
        have HU := Lib.hid hu
        have hec : ec = 0 ∨ ¬ ec = 0 := by omega
        rcases hec with rfl | hec
        · rw [if_pos rfl] at hst
          have HST := Lib.hid (And.intro hst (And.intro hfr gr))
          clear hu hst hrr hR hfr gr hld
          go_wp2_with fail
          refine HU.out.mono ?_
          rintro e w2 ⟨rfl, L2, u2, h2, g2, n2⟩
          have H2 := Lib.hid (And.intro h2 (And.intro (show ∀ b, u2.ownBlock = some b → w.heap.size ≤ b from fun b hb => (n2 b hb).elim (HST.out.2.1 b) (fun h => by have := HST.out.2.2.size; omega)) (HST.out.2.2.next g2 (fun q hq e => by
            rcases e with e | e
            · omega
            · have := HST.out.2.1 q e; omega))))
          clear h2 g2 n2
          go_wp2_with fail
          go_roundw
          case rel => exact ⟨k + 1, S1, L2, u2, by omega, by go_num, HST.out.1, H2.out.1, H2.out.2.1, H2.out.2.2⟩
          case measure => simp [intOf]; omega
        · rw [if_neg hec] at hst
          have HST := Lib.hid (And.intro ((SpV.new A N).loadU_none l _ hst) (And.intro hfr gr))
          have hez : ((ec : Int) != 0) = true := by rw [bne_iff_ne]; omega
          have hez2 : ((ec : Int) == 0) = false := by rw [beq_eq_false_iff_ne]; omega
          clear hu hst hrr hR hfr gr hld hec
          go_wp2_with fail
          refine HU.out.mono ?_
          rintro e w2 ⟨rfl, L2, u2, h2, g2, n2⟩
          have H2 := Lib.hid (HST.out.2.2.next g2 (fun q hq e => by
            rcases e with e | e
            · omega
            · have := HST.out.2.1 q e; omega))
          clear h2 g2 n2
          go_wp2_with fail
          go_ret2
          rw [← HR.out, HST.out.1]
          exact ⟨rfl, H2.out⟩
      · obtain rfl : k = l.length := by omega
        rw [List.take_length] at hld
        have H2 := Lib.hid (And.intro hld (And.intro hR (And.intro hfr gr)))
        clear hR hfr gr hld
        go_wp2_with fail
        go_ret2
        rw [← HR.out, H2.out.1]
        exact ⟨_, rfl, r, L, u, rfl, H2.out.2.1, hrw, H2.out.2.2.1, H2.out.2.2.2⟩
end Go.Proofs.Ytdhnidmeeocajaa
