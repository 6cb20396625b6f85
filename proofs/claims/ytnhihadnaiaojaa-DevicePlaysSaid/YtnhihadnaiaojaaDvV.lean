/- What the document's Copy and New make. No condition. -/
import Derived.Test.YtnhihadnaiaojaaDvU
import Derived.Deep.RegionLaw
namespace Go.Proofs.Ytnhihadnaiaojaa
open Go.RowKit Go.Shelf

theorem step_append_runD {P : Program} {ops : Array Oper} {o : Oper} {a : Act} {w : World} {K : Act → World → Prop} {Q : Exit → Act → World → Prop} {E : Prop}
    (hg : o.guard = none) (s x : Operand) (t tx : TypeId) (hop : o.op = Op.call { callee := Callee.builtin Builtin.append, args := #[s, x], argTypes := #[t, tx] })
    (vs vx : Value) (hs : a.eval s = vs) (hx : a.eval x = vx) (v' : Value) (w' : World) (hr : (Builtin.append_ #[t, tx] o.type #[vs, vx]).run P w = .ok v' w') (hK : K (a.put o.dst v') w') :
    if Region.wanted o (yielded ops a.tmps) = true then Oper.wp P o a w K Q else E := by
  have hw : Region.wanted o (yielded ops a.tmps) = true := by simp [Region.wanted, hg]
  rw [if_pos hw]
  unfold Oper.wp
  simp [execOp, hop, resolve, invoke, builtin, hs, hx, hr, Result.andThen]
  exact hK
theorem RefC.zero (w : World) : RefC (w.alloc (.cells #[.slice none 0 0, .slice none 0 0] 44)) w.heap.size [] [] (fun k => k = w.heap.size) (.slice none 0 0) (.slice none 0 0) :=
  ⟨Blk.alloc _ _ _, Row.nil_ _ 1, Row.nil_ _ 2, rfl, (fun g h => by cases h), (fun g h => by cases h), (fun k hk => by have e : k = w.heap.size := hk; subst e; simp)⟩
theorem RefC.drew {w : World} {r : Nat} {A : List (List UInt8)} {B : List (Nat × List UInt8)} {fp : Nat → Prop} {va vb : Value} (h : RefC w r A B fp va vb) : RefC w.drew r A B fp va vb := h.keep ((Frm.refl (fun _ => False) w).drew) fun _ _ h => h
/-- A new device of the document. -/
def NewRef (D : DV) (w : World) (v : Value) (w' : World) : Prop := ∃ r fp, v = .pointer (some ⟨r, 0, none⟩) ∧ RefM w' r D fp ∧ Frm (fun _ => False) w w' ∧ ∀ k, fp k → w.heap.size ≤ k

set_option maxRecDepth 100000 in
set_option maxHeartbeats 4000000 in
theorem copy_ref (r : Nat) (D : DV) (fp : Nat → Prop) (w : World) (h : RefM w r D fp) (hok : D.ok) :
    Calls Try.prog 15 #[.pointer (some ⟨r, 0, none⟩)] w fun e w' => ∃ v, e = .returned v ∧ NewRef D w v w' := by
  obtain ⟨va, vb, h⟩ := h
  have hi := hok.hi
  have hla := FRs_len D
  have hlb := FLs_len D
  have hfl := D.fresh_len
  obtain ⟨w1, hw1⟩ : ∃ w1, w.alloc (.cells #[.slice none 0 0, .slice none 0 0] 44) = w1 := ⟨_, rfl⟩
  obtain ⟨c, hc⟩ : ∃ c, w.heap.size = c := ⟨_, rfl⟩
  have hz := RefC.zero w
  rw [hw1, hc] at hz
  have f1 : Frm (fun _ => False) w w1 := by rw [← hw1]; exact (Frm.refl _ w).alloc _
  have h1 := h.keep f1 (fun _ _ h => h)
  obtain ⟨v4, w4, e4, o4, g4, n4⟩ := append_sts w1.drew (.slice none 0 0) va [] (FRs D) (Row.nil_ _ 1) (h1.firm.reads.keepF ((Frm.refl _ _).drew)) (by rw [hla]; simp; omega)
  rw [List.nil_append] at o4
  have F4 : Frm (fun _ => False) w1 w4 := (Frm.refl _ w1).drew.trans ((frm_grown g4).mono fun j _ hj => by cases hj)
  have N4 : ∀ g, v4.ownBlock = some g → w1.heap.size ≤ g := fun g hg => (n4 g hg).elim (fun h => by cases h) id
  have z5 := hz.putA F4 o4 N4
  have hcw : w.heap.size < w1.heap.size := by have := hz.lt c rfl; omega
  obtain ⟨a4, k4, rfl, _, _⟩ := Row.slice o4
  obtain ⟨w5, hw5⟩ : ∃ w5, w4.setCell ⟨c, 0, none⟩ (.slice a4 (FRs D).length k4) = w5 := ⟨_, rfl⟩
  rw [hw5] at z5
  have F5 : Frm (fun _ => False) w w5 := by rw [← hw5]; exact (f1.trans F4).setCell (fun h => by have e : c < w.heap.size := h; omega) _
  have h5 := h.keep F5 (fun _ _ h => h)
  obtain ⟨v6, w6, e6, o6, g6, n6⟩ := append_frs w5.drew (.slice none 0 0) vb [] (FLs D) (Row.nil_ _ 2) (Sl.keepF (Sl.ofRow h5.list) ((Frm.refl _ _).drew)) (by rw [hlb]; simp; omega)
  rw [List.nil_append] at o6
  have F6 : Frm (fun _ => False) w5 w6 := (Frm.refl _ w5).drew.trans ((frm_grown g6).mono fun j _ hj => by cases hj)
  have N6 : ∀ g, v6.ownBlock = some g → w5.heap.size ≤ g := fun g hg => (n6 g hg).elim (fun h => by cases h) id
  have z7 := z5.putL F6 o6 N6
  have s5 := F5.size
  obtain ⟨a6, k6, rfl, _, _⟩ := Row.slice o6
  have z41 := ((hz.blk.keep F4 (fun h => h))).cell 0 rfl
  have z42 := ((hz.blk.keep F4 (fun h => h))).free 0
  have z61 := ((z5.blk.keep F6 (fun h => h))).cell 1 rfl
  have z62 := ((z5.blk.keep F6 (fun h => h))).free 1
  have b11 := hz.blk.cell 0 rfl
  have b12 := h1.blk.cell 0 rfl
  have b51 := z5.blk.cell 1 rfl
  have b52 := h5.blk.cell 1 rfl
  have HE : NewRef D w (.pointer (some ⟨c, 0, none⟩)) (w6.setCell ⟨c, 1, none⟩ (.slice a6 (FLs D).length k6)) :=
    ⟨c, _, rfl, ⟨_, _, z7⟩, (F5.trans F6).setCell (fun h => by have e : c < w.heap.size := h; omega) _, fun k hk => by
      rcases hk with (e | ⟨e, _⟩) | ⟨e, _⟩
      · rw [e]; omega
      · omega
      · omega⟩
  have HE := Lib.hid HE
  have H4 := Lib.hid e4
  have H6 := Lib.hid e6
  clear h h1 h5 hz z5 z7 f1 F4 F5 F6 N4 N6 o4 g4 n4 o6 g6 n6 e4 e6 hcw s5 hla hlb hfl hi hok
  go_enter Try.func15, Try.ntmps15
  go_upto_region 2 with fail
  (try rw [hw1]); (try rw [hc])
  go_region_law ((refine step_append_runD rfl (.tmp 10) (.tmp 14) 41 41 rfl (.slice none 0 0) va ?h1 ?h2 _ w4 H4.out ?_; (case h1 => go_simp); (case h2 => go_simp)))
  all_goals
    go_wp2_with fail
    (try rw [hw5])
    go_region_law ((refine step_append_runD rfl (.tmp 22) (.tmp 26) 42 42 rfl (.slice none 0 0) vb ?h1 ?h2 _ w6 H6.out ?_; (case h1 => go_simp); (case h2 => go_simp)))
    all_goals
      go_wp2_with fail
      go_ret
      exact ⟨_, rfl, HE.out⟩
end Go.Proofs.Ytnhihadnaiaojaa
