/- What the document's Read and Sure answer. No condition. -/
import Derived.Test.YtdhngbfigklaoaaDvS
namespace Go.Proofs.Ytdhngbfigklaoaa
open Go.RowKit Go.Shelf

set_option maxRecDepth 100000 in
set_option maxHeartbeats 4000000 in
theorem sure_ref (r : Nat) (D : DV) (fp : Nat → Prop) (q : Int) (w : World) (h : RefM w r D fp) (hok : D.ok) (hq : Z64 q) :
    Calls Try.prog 38 #[.pointer (some ⟨r, 0, none⟩), .int .i64 q] w fun e w' => e = .returned (.tuple #[.string (bs (if D.bad q then [] else D.F q.toNat)), .int .i64 (if D.bad q then 2 else 0)]) ∧ Frm (fun _ => False) w w' := by
  obtain ⟨va, vb, h⟩ := h
  obtain ⟨a, cap, rfl, hc1, hc2⟩ := h.firm.reads.slice
  rw [FRs_len] at hc1
  have e1 : (FRs D).length = D.n := FRs_len D
  have c0 : w.cell? ⟨r, 0, none⟩ = some (.slice a D.n cap) := by rw [← e1]; exact h.blk.cell 0 rfl
  unfold maxLen at hc2
  have H := Lib.hid h
  have hi := hok.hi
  clear h hok
  cases hb : D.bad q with
  | true =>
    have hb2 := of_decide_eq_true hb
    clear hb e1
    by_cases hneg : q < 0
    · go_enter Try.func38, Try.ntmps38
      go_wp2_with fail
      go_ret2
      exact ⟨rfl, Frm.refl _ _⟩
    · have hge : (D.n : Int) ≤ q := by omega
      go_enter Try.func38, Try.ntmps38
      go_wp2_with fail
      go_ret2
      exact ⟨rfl, Frm.refl _ _⟩
  | false =>
    have hb2 := of_decide_eq_false hb
    clear hb
    obtain ⟨k, rfl⟩ : ∃ k : Nat, q = (k : Int) := ⟨q.toNat, by omega⟩
    have hkn : (k : Int) < (D.n : Int) := by omega
    have hk0 : (0 : Int) ≤ (k : Int) := by omega
    obtain ⟨g, off, rfl, hg, c1⟩ := Strs.at (show Strs w (.slice a (FRs D).length cap) (FRs D) from H.out.firm.reads) k (by omega)
    rw [FRs_at] at c1
    rw [show ((k : Int)).toNat = k from rfl]
    clear hb2 e1
    go_enter Try.func38, Try.ntmps38
    go_wp2_with fail
    go_ret2
    exact ⟨rfl, Frm.refl _ _⟩
set_option maxRecDepth 100000 in
set_option maxHeartbeats 4000000 in
theorem read_ref (r : Nat) (D : DV) (fp : Nat → Prop) (q : Int) (w : World) (h : RefM w r D fp) (hok : D.ok) (hq : Z64 q) :
    Calls Try.prog 36 #[.pointer (some ⟨r, 0, none⟩), .int .i64 q] w fun e w' => e = .returned (.tuple #[.string (bs (if D.bad q then [] else D.read q.toNat)), .int .i64 (if D.bad q then 2 else 0)]) ∧ Frm (fun _ => False) w w' := by
  obtain ⟨va, vb, h⟩ := h
  obtain ⟨a, cap, rfl, hc1, hc2⟩ := h.firm.reads.slice
  rw [FRs_len] at hc1
  have e1 : (FRs D).length = D.n := FRs_len D
  have c0 : w.cell? ⟨r, 0, none⟩ = some (.slice a D.n cap) := by rw [← e1]; exact h.blk.cell 0 rfl
  unfold maxLen at hc2
  have H := Lib.hid (And.intro h hok)
  have hi := hok.hi
  clear h hok
  cases hb : D.bad q with
  | true =>
    have hb2 := of_decide_eq_true hb
    clear hb e1
    by_cases hneg : q < 0
    · go_enter Try.func36, Try.ntmps36
      go_wp2_with fail
      go_ret2
      exact ⟨rfl, Frm.refl _ _⟩
    · have hge : (D.n : Int) ≤ q := by omega
      go_enter Try.func36, Try.ntmps36
      go_wp2_with fail
      go_ret2
      exact ⟨rfl, Frm.refl _ _⟩
  | false =>
    have hb2 := of_decide_eq_false hb
    clear hb
    obtain ⟨k, rfl⟩ : ∃ k : Nat, q = (k : Int) := ⟨q.toNat, by omega⟩
    have hkN : k < D.n := by omega
    have hkn : (k : Int) < (D.n : Int) := by omega
    have hk0 : (0 : Int) ≤ (k : Int) := by omega
    have HP := place_ref r D fp _ _ k w H.out.1 H.out.2 hkN
    rw [show ((k : Int)).toNat = k from rfl]
    cases hx : D.X k with
    | none =>
      have hrd : D.read k = D.F k := DV.read_none hx
      rw [hx] at HP
      have HP := Lib.hid HP
      rw [hrd]
      clear hb2 hx hrd
      go_enter Try.func36, Try.ntmps36
      go_wp2_with fail
      refine HP.out.mono ?_
      rintro e w1 ⟨rfl, g1⟩
      have hC := H.out.1.keep g1 (fun _ _ h => h)
      have c0 : w1.cell? ⟨r, 0, none⟩ = some (.slice a D.n cap) := by rw [← e1]; exact hC.blk.cell 0 rfl
      obtain ⟨g, off, rfl, hg, c1⟩ := Strs.at (show Strs w1 (.slice a (FRs D).length cap) (FRs D) from hC.firm.reads) k (by omega)
      rw [FRs_at] at c1
      have G1 := Lib.hid g1
      clear g1 hC e1
      go_wp2_with fail
      go_ret2
      exact ⟨rfl, G1.out⟩
    | some l =>
      have hrd : D.read k = l := by unfold DV.read; rw [hx]; rfl
      have hat := FLs_rank H.out.2 hx
      rw [hx] at HP
      have HP := Lib.hid HP
      rw [hrd]
      clear hb2 hx hrd
      obtain ⟨hRl, hRe⟩ := List.getElem?_eq_some_iff.1 hat
      obtain ⟨R, hR⟩ : ∃ R, D.rank k = R := ⟨_, rfl⟩
      obtain ⟨N, hN⟩ : ∃ N, (FLs D).length = N := ⟨_, rfl⟩
      rw [hR] at HP
      simp only [hR] at hRl hRe
      go_enter Try.func36, Try.ntmps36
      go_wp2_with fail
      refine HP.out.mono ?_
      rintro e w1 ⟨rfl, g1⟩
      have hC := H.out.1.keep g1 (fun _ _ h => h)
      obtain ⟨al, cl, rfl, hcl1, hcl2⟩ := hC.list.frl.slice
      unfold maxLen at hcl2
      have c2 : w1.cell? ⟨r, 1, none⟩ = some (.slice al N cl) := by rw [← hN]; exact hC.blk.cell 1 rfl
      obtain ⟨g, off, rfl, hg, _, c1⟩ := FrL.elem (show FrL w1 _ (FLs D) from hC.list.frl) R hRl
      rw [hRe] at c1
      have hri : (R : Int) < (N : Int) := by omega
      have hr0 : (0 : Int) ≤ (R : Int) := by omega
      have G1 := Lib.hid g1
      rw [hN] at hcl1
      clear g1 hC e1 hRe hat
      go_wp2_with fail
      go_ret2
      exact ⟨rfl, G1.out⟩
end Go.Proofs.Ytdhngbfigklaoaa

