/- What New, Copy, Fresh do. No condition. -/
import Derived.Test.YtfbaleomhghjeaaGreatDvF
import Derived.Test.YtfbaleomhghjeaaGreatShelf
import Derived.Lib.SlKeysI
import Derived.Deep.RegionHeld3
section
namespace Go.Proofs.YtfbaleomhghjeaaGreat
open Go.RowKit Go.Shelf

theorem dclone_any (b n : Nat) (G : Nat → Option (List UInt8)) (w : World) (h : MapB w b n G) :
    Calls Tryz.prog 72 #[.map (some b)] w fun e w' => e = .returned (.map (some w.heap.size)) ∧ MapB w' w.heap.size n G ∧ Frm (fun _ => False) w w' := by
  obtain ⟨m, D, ⟨es, clock, hb, F, hs, hD⟩, h2⟩ := h
  have hc := AnyW.maps_Clone Tryz.cloneD b es clock w hb
  change Calls Tryz.prog 72 _ _ _ at hc
  refine hc.mono ?_
  rintro e w' ⟨rfl, rfl⟩
  exact ⟨rfl, ⟨m, D, ⟨es, clock, (MapKept.heap_alloc w _).1, F, hs, hD⟩, h2⟩, (Frm.refl _ w).alloc _⟩

/-- What New answers. -/
def NewTo (n : Int) (w : World) (e : Ending) (w' : World) : Prop :=
  if 256 ≤ n ∧ n ≤ 2048 then ∃ v, e = .returned v ∧ NewDev (DV.new n.toNat) w v w' else e = .returned (.pointer none) ∧ w = w'
set_option maxRecDepth 100000 in
set_option maxHeartbeats 1000000 in
theorem new_any (n : Int) (w : World) : Calls Tryz.prog 10 #[.int .i64 n] w (NewTo n w) := by
  unfold NewTo
  by_cases h1 : n < 256
  · have hc : ¬ (256 ≤ n ∧ n ≤ 2048) := by omega
    simp only [hc, if_false]
    clear hc
    go_enter Tryz.func10, Tryz.ntmps10
    go_wp2_with fail
    go_ret
    exact ⟨rfl, rfl⟩
  · by_cases h2 : 2048 < n
    · have hc : ¬ (256 ≤ n ∧ n ≤ 2048) := by omega
      simp only [hc, if_false]
      clear hc
      go_enter Tryz.func10, Tryz.ntmps10
      go_wp2_with fail
      go_ret
      exact ⟨rfl, rfl⟩
    · have hc : 256 ≤ n ∧ n ≤ 2048 := by omega
      simp only [hc, and_self, if_true]
      clear hc
      obtain ⟨k, rfl⟩ : ∃ k : Nat, n = (k : Int) := ⟨n.toNat, by omega⟩
      rw [show ((k : Int)).toNat = k from rfl]
      have m1 := MapB.made w k
      have m2 := MapB.made (w.alloc (.map #[] 0)) k
      have g1 : Frm (fun _ => False) w (w.alloc (.map #[] 0)) := (Frm.refl _ w).alloc _
      have g2 : Frm (fun _ => False) (w.alloc (.map #[] 0)) ((w.alloc (.map #[] 0)).alloc (.map #[] 0)) := (Frm.refl _ _).alloc _
      have hok : (DV.new k).ok := DV.ok_new (by omega) (by omega)
      have hsz : (w.alloc (.map #[] 0)).heap.size = w.heap.size + 1 := by simp
      rw [hsz] at m2
      have hne : w.heap.size ≠ w.heap.size + 1 := by omega
      have HB := Lib.hid (build_any w.heap.size (w.heap.size + 1) (DV.new k) ((w.alloc (.map #[] 0)).alloc (.map #[] 0)) hok ((m1.keep g2 (fun h => h)).congr fun j => by simp [DV.firmG, DV.new]) m2 hne)
      have HG := Lib.hid (And.intro (g1.trans g2) hsz)
      clear m1 m2 g1 g2 hok hne hsz
      have hmm := fun w => run_makeMap (P := Tryz.prog) 73 w
      go_enter Tryz.func10, Tryz.ntmps10
      go_wp2_with fail
      refine HB.out.mono ?_
      rintro e w3 ⟨rfl, h3, g3⟩
      go_wp2_with fail
      go_ret
      have hs := HG.out.2
      have hs2 : ((w.alloc (.map #[] 0)).alloc (.map #[] 0)).heap.size = w.heap.size + 1 + 1 := by simp
      rw [hs2] at h3
      exact ⟨_, rfl, _, _, _, rfl, h3, by omega, by omega, by omega, HG.out.1.trans g3⟩

/-- A slice of ints that the call holds by itself. -/
def OwnZ (w : World) (v : Value) (l : List Int) : Prop := Row w 1 v l.length (zcs l)
theorem OwnZ.zs {w : World} {v : Value} {l : List Int} (h : OwnZ w v l) : Zs w v l := Sl.ofRow h
theorem OwnZ.keepF {w w' : World} {v : Value} {l : List Int} (h : OwnZ w v l) (hf : Frm (fun _ => False) w w') : OwnZ w' v l := Row.keep h hf (fun _ _ h => h)
theorem Row.ofOwns {w : World} {base : Nat} {e : TypeId} {size n : Nat} {v : Value} {xs : List Value} (h : w.ownsRow base e size v n xs) : Row w size v n xs ∧ ∀ g, v.ownBlock = some g → base ≤ g := by
  obtain ⟨h1, ⟨rfl, rfl⟩ | ⟨g, cap, cur, rfl, h2, h3, h4, h5, h6, h7⟩⟩ := h
  · exact ⟨⟨h1, .inl ⟨rfl, rfl⟩⟩, fun g hg => by cases hg⟩
  · have hb : Blk w g e cur := h3
    have hm := Nat.mul_le_mul_right size h4
    refine ⟨⟨h1, .inr ⟨g, cap, rfl, h4, h5, ⟨_, h3, rfl⟩, fun j hj => ?_, fun j hj => ⟨?_, hb.free j⟩⟩⟩, fun g' hg => by cases hg; exact h2⟩
    · have hj' : j < cur.size := by omega
      rw [hb.cell j (v := cur[j]) (by simp [hj']), ← h7, List.getElem?_take, if_pos hj]
      simp [hj']
    · have hj' : j < cur.size := by omega
      rw [hb.cell j (v := cur[j]) (by simp [hj'])]
      rfl
theorem sorted_fresh (D : DV) {ss : List Int} (h : ss.Perm (D.fresh.map Int.ofNat)) : ss.mergeSort (fun x y => decide (x ≤ y)) = D.fresh.map Int.ofNat := by
  rw [mergeSort_of_perm_i h]
  refine List.mergeSort_of_pairwise (List.pairwise_map.2 (D.fresh_sorted.imp fun {a b} hab => ?_))
  simp only [leI, decide_eq_true_eq, Int.ofNat_eq_natCast]
  omega
theorem sortsD (m : Nat) : AnyZI.SortsIn Tryz.prog Tryz.sortedD_ren Fence.wide m :=
  ⟨fun blk off cap ss W hH hblk hsz => callsIn_wide.2 (AnyM.slices_Sort_int Tryz.sortD blk off cap ss W hH hblk hsz),
   fun p cap W => callsIn_wide.2 (AnyM.slices_Sort_int_none Tryz.sortD p cap W)⟩
theorem keysD_any (mb : Option Nat) (W : World) :
    Calls Tryz.prog 117 #[.map mb] W fun e w' => e = .returned (.func (.func 136) #[] #[.pointer (some ⟨W.heap.size, 0, none⟩)]) ∧ w' = W.alloc (.cells #[.map mb] 73) :=
  (callsIn_wide (n := 5)).1 (AnyZI.keys_in Tryz.keysD Fence.wide 5 trivial rfl mb W)
set_option maxRecDepth 100000 in
theorem sortedD_any (q x : Nat) (D : DV) (W : World) (hq : q < W.heap.size) (c0 : W.cell? ⟨q, 0, none⟩ = some (.map (some x))) (h : MapB W x D.n D.X) (hok : D.ok) :
    Calls Tryz.prog 116 #[.func (.func 136) #[] #[.pointer (some ⟨q, 0, none⟩)]] W fun e w' => ∃ v, e = .returned v ∧ OwnZ w' v (D.fresh.map Int.ofNat) ∧ (∀ g, v.ownBlock = some g → W.heap.size ≤ g) ∧ Frm (fun _ => False) W w' := by
  obtain ⟨m, E, h1, h2⟩ := h
  have hi := hok.hi
  have hsz := h2.size h1
  have hseq : SeqGives Fence.wide 2 Tryz.prog 136 #[.pointer (some ⟨q, 0, none⟩)] encZ (fun ss => ss.Perm (intKeys E)) (Go.Maps.size E) W :=
    AnyZI.keys_gives (ρ := Tryz.keysD_ren) { Tryz.keysD with } Fence.wide _ trivial rfl (by omega) q x m E W hq c0 h1
  have cS := AnyZI.sorted_in Tryz.sortedD Fence.wide 5 trivial trivial trivial trivial rfl (by omega) (sortsD _) (enters_of Tryz.func135 (by kernel_rfl) rfl) 136 #[.pointer (some ⟨q, 0, none⟩)] trivial (enters_of Tryz.func136 (by kernel_rfl) rfl) _ _ (by unfold maxLen; omega) (by omega) W hseq
  refine ((callsIn_wide (n := 5)).1 cS).mono ?_
  rintro e w' ⟨v, ss, rfl, hS, hrow, hnil, hb⟩
  have hp : ss.Perm (D.fresh.map Int.ofNat) := hS.trans (h2.keysP h1)
  rw [sorted_fresh D hp, hp.length_eq] at hrow
  obtain ⟨r1, r2⟩ := Row.ofOwns hrow
  exact ⟨v, rfl, r1, r2, (Frm.ofBelow hb).mono fun k hk h => by omega⟩

/-- What Fresh answers. -/
def FreshTo (D : DV) (w : World) (e : Ending) (w' : World) : Prop := ∃ v, e = .returned v ∧ OwnZ w' v (D.fresh.map Int.ofNat) ∧ (∀ g, v.ownBlock = some g → w.heap.size ≤ g) ∧ Frm (fun _ => False) w w'
set_option maxRecDepth 100000 in
set_option maxHeartbeats 1000000 in
theorem fresh_any (b f x : Nat) (D : DV) (w : World) (h : DevM w b f x D) :
    Calls Tryz.prog 84 #[.pointer (some ⟨b, 0, none⟩)] w (FreshTo D w) := by
  have c3 := h.xc
  have HM := Lib.hid (dmade_any b f x D w h)
  have H := Lib.hid h
  have HK := Lib.hid (fun mb W => keysD_any mb W)
  clear h
  go_enter Tryz.func84, Tryz.ntmps84
  go_wp2_with fail
  refine HM.out.mono ?_
  rintro e w1 ⟨rfl, rfl⟩
  go_wp2_with fail
  refine (HK.out _ _).mono ?_
  rintro e w1 ⟨rfl, rfl⟩
  have hb := Blk.alloc w 73 #[.map (some x)]
  have g : Frm (fun _ => False) w (w.alloc (.cells #[.map (some x)] 73)) := (Frm.refl _ w).alloc _
  have HS := Lib.hid (sortedD_any w.heap.size x D _ hb.lt (hb.cell 0 rfl) (H.out.fresh.keep g (fun h => h)) H.out.ok)
  have G := Lib.hid (And.intro g hb.lt)
  clear hb g
  go_wp2_with fail
  refine HS.out.mono ?_
  rintro e w2 ⟨v, rfl, h1, h2, h3⟩
  go_wp2_with fail
  go_ret
  have g := G.out.1
  exact ⟨v, rfl, h1, fun q hq => by have := h2 q hq; have := g.size; omega, g.trans h3⟩
end Go.Proofs.YtfbaleomhghjeaaGreat
end
section
namespace Go.Proofs.YtfbaleomhghjeaaGreat
open Go.RowKit Go.Shelf

theorem dFrm_cell {w w' : World} {a : Addr} {v : Value} (h : Frm (fun _ => False) w w') (c : w.cell? a = some v) : w'.cell? a = some v := by
  have hb : a.block < w.heap.size := World.block_lt_of_cell? w _ c
  rw [World.cell?_of_block (h.block a.block hb (fun h => h))]
  exact c
set_option maxRecDepth 100000 in
set_option maxHeartbeats 4000000 in
theorem copy_any (b f x : Nat) (D : DV) (w : World) (h : DevM w b f x D) :
    Calls Tryz.prog 34 #[.pointer (some ⟨b, 0, none⟩)] w fun e w' => ∃ v, e = .returned v ∧ NewDev D w v w' := by
  have c1 := h.n
  have c2 := h.fc
  have c3 := h.xc
  have HM := Lib.hid (dmade_any b f x D w h)
  have HF : ∀ W, Frm (fun _ => False) w W → Calls Tryz.prog 72 #[.map (some f)] W fun e w' => ∃ f', e = .returned (.map (some f')) ∧ (∀ W', Frm (fun _ => False) w' W' → MapB W' f' D.n D.firmG) ∧ (W.heap.size ≤ f' ∧ f' < w'.heap.size) ∧ Frm (fun _ => False) W w' := fun W hf =>
    (dclone_any f D.n D.firmG W (h.firm.keep hf (fun h => h))).mono fun e w' ⟨h1, h2, h3⟩ => ⟨_, h1, fun W' g => h2.keep g (fun h => h), ⟨Nat.le_refl _, h2.lt⟩, h3⟩
  have HX : ∀ W, Frm (fun _ => False) w W → Calls Tryz.prog 72 #[.map (some x)] W fun e w' => ∃ f', e = .returned (.map (some f')) ∧ (∀ W', Frm (fun _ => False) w' W' → MapB W' f' D.n D.X) ∧ (W.heap.size ≤ f' ∧ f' < w'.heap.size) ∧ Frm (fun _ => False) W w' := fun W hf =>
    (dclone_any x D.n D.X W (h.fresh.keep hf (fun h => h))).mono fun e w' ⟨h1, h2, h3⟩ => ⟨_, h1, fun W' g => h2.keep g (fun h => h), ⟨Nat.le_refl _, h2.lt⟩, h3⟩
  have HB : ∀ W f' x', MapB W f' D.n D.firmG → MapB W x' D.n D.X → f' ≠ x' → Calls Tryz.prog 35 #[.int .i64 (D.n : Nat), .map (some f'), .map (some x')] W fun e w' => e = .returned (.pointer (some ⟨W.heap.size, 0, none⟩)) ∧ DevM w' W.heap.size f' x' D ∧ Frm (fun _ => False) W w' := fun W f' x' h1 h2 h3 => build_any f' x' D W h.ok h1 h2 h3
  have Hf := Lib.hid HF
  have Hx := Lib.hid HX
  have Hb := Lib.hid HB
  clear h HF HX HB
  go_enter Tryz.func34, Tryz.ntmps34
  go_wp2_with fail
  refine HM.out.mono ?_
  rintro e w1 ⟨rfl, rfl⟩
  go_wp2_with fail
  have f0 := Frm.refl (fun _ => False) w
  go_region_held3 (fun w' => w'.cell? ⟨b, 1, none⟩ = some (.int .i64 (D.n : Nat)) ∧ w'.cell? ⟨b, 2, none⟩ = some (.map (some f)) ∧ w'.cell? ⟨b, 3, none⟩ = some (.map (some x)) ∧ Frm (fun _ => False) w w')
    (((try dsimp only); (try go_split_ands); (repeat' apply And.intro) <;> (first
      | assumption
      | exact Frm.drew (by assumption)
      | exact dFrm_cell gg (by assumption)
      | (refine Frm.trans ?_ gg; assumption)
      | go_keep)))
    (first
      | (go_at_call 72; (with_reducible refine (Hf.out _ (And.right (And.right (And.right (by assumption))))).mono ?_); rintro e ww ⟨f', rfl, Mf, lf, gg⟩)
      | (go_at_call 72; (with_reducible refine (Hx.out _ (And.right (And.right (And.right (by assumption))))).mono ?_); rintro e ww ⟨x', rfl, Mx, lx, gg⟩)
      | (go_at_call 35; (with_reducible refine (Hb.out _ f' x' (by first | exact Mf _ (Frm.refl _ _) | exact Mf _ gg) (by first | exact Mx _ (Frm.refl _ _) | exact Mx _ gg) (by omega)).mono ?_); rintro e ww ⟨rfl, HD, gg⟩))
  all_goals
    rename_i W1 g1 W2 g2 hh
    clear hh
    go_wp2_with fail
    go_ret
    have e0 : w.drew.heap.size = w.heap.size := rfl
    have s1 := g1.size
    have s2 := g2.size
    exact ⟨_, rfl, W2.heap.size, f', x', rfl, HD, by omega, by omega, by omega, ((f0.drew.trans g1).trans g2).trans gg⟩

theorem surv_pos {cs : List Int} {i : Nat} (h : cs.length ≠ 0) (q : Int) (hq : cs[i % cs.length]? = some q) : surv cs i = min (q % 66).toNat 64 := by
  unfold surv
  rw [if_neg h, List.getD_eq_getElem?_getD, hq]
  rfl
set_option maxRecDepth 100000 in
set_option maxHeartbeats 2000000 in
theorem surv_any (v : Value) (cs : List Int) (i : Nat) (w : World) (h : Zs w v cs) (hz : ∀ z ∈ cs, Z64 z) (hi : i ≤ 1000000) (hl : cs.length ≤ 1000000) :
    Calls Tryz.prog 85 #[v, .int .i64 (i : Int)] w fun e w' => e = .returned (.int .i64 (surv cs i : Nat)) ∧ w = w' := by
  obtain ⟨a, cap, rfl, h1, h2⟩ := h.slice
  unfold maxLen at h2
  by_cases h0 : cs.length = 0
  · have hs : surv cs i = 0 := by unfold surv; rw [if_pos h0]
    rw [hs]
    have hd : decide ((cs.length : Int) = 0) = true := decide_eq_true (by omega)
    have hd2 : ((cs.length : Int) == 0) = true := by rw [beq_iff_eq]; omega
    go_enter Tryz.func85, Tryz.ntmps85
    go_wp2_with fail
    go_ret
    exact ⟨rfl, rfl⟩
  · have hd2 : ((cs.length : Int) == 0) = false := by rw [beq_eq_false_iff_ne]; omega
    obtain ⟨j, hj⟩ : ∃ j, i % cs.length = j := ⟨_, rfl⟩
    have hjl : j < cs.length := by rw [← hj]; exact Nat.mod_lt _ (by omega)
    have t1 : (i : Int) % (cs.length : Int) = (j : Int) := by rw [← hj]; omega
    have t1' : (i : Int).tmod (cs.length : Int) = (j : Int) := by rw [Int.tmod_eq_emod_of_nonneg (by omega)]; exact t1
    have t3 : IntKind.i64.wrap (j : Int) = (j : Int) := by rw [IntKind.wrap_i64]; omega
    obtain ⟨q, hq⟩ : ∃ q, cs[j] = q := ⟨_, rfl⟩
    have hs := surv_pos h0 q (by rw [hj, List.getElem?_eq_getElem hjl, hq])
    rw [hs]
    obtain ⟨g, off, rfl, hg, c0⟩ := h.at j hjl
    rw [hq] at c0
    have hqz : Z64 q := hq ▸ hz _ (List.getElem_mem hjl)
    obtain ⟨hq1, hq2⟩ := hqz
    obtain ⟨r, hr⟩ : ∃ r, q.tmod 66 = r := ⟨_, rfl⟩
    have hb1 : r < 66 := by rw [← hr]; exact Int.tmod_lt_of_pos _ (by decide)
    have hb2 : -66 < r := by rw [← hr]; exact Int.lt_tmod_of_pos _ (by decide)
    have he : q % 66 = if r < 0 then r + 66 else r := by
      have := Int.tmod_eq_emod (a := q) (b := 66)
      rw [hr] at this
      have h66 : (66 : Int).natAbs = 66 := rfl
      have hm : 0 ≤ q % 66 := Int.emod_nonneg _ (by decide)
      have hm2 : q % 66 < 66 := Int.emod_lt_of_pos _ (by decide)
      split at this
      · rw [if_neg (by omega)]; omega
      · rename_i hnd
        have : q % 66 ≠ 0 := fun e => hnd (.inr (Int.dvd_of_emod_eq_zero e))
        rw [if_pos (by omega)]; omega
    have w1 : IntKind.i64.wrap r = r := by rw [IntKind.wrap_i64]; omega
    clear hj hq hs
    rw [he]
    clear he
    by_cases hn : r < 0
    · have w2 : IntKind.i64.wrap (r + 66) = r + 66 := by rw [IntKind.wrap_i64]; omega
      rw [if_pos hn]
      have hm : min (r + 66) 64 = ((min (r + 66).toNat 64 : Nat) : Int) := by omega
      go_enter Tryz.func85, Tryz.ntmps85
      go_wp2_with fail
      go_ret
      exact ⟨rfl, rfl⟩
    · rw [if_neg hn]
      have hm : min r 64 = ((min r.toNat 64 : Nat) : Int) := by omega
      go_enter Tryz.func85, Tryz.ntmps85
      go_wp2_with fail
      go_ret
      exact ⟨rfl, rfl⟩
end Go.Proofs.YtfbaleomhghjeaaGreat
end
