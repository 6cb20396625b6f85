/- The document's Copy. No condition. -/
import Derived.Test.YtdhnidmeeocajaaSpT
import Derived.Deep.RegionLaw
import Derived.Deep.RegionHeld3
namespace Go.Proofs.Ytdhnidmeeocajaa
open Go.RowKit Go.Shelf

theorem step_append_runS {P : Program} {ops : Array Oper} {o : Oper} {a : Act} {w : World} {K : Act → World → Prop} {Q : Exit → Act → World → Prop} {E : Prop}
    (hg : o.guard = none) (s x : Operand) (t tx : TypeId) (hop : o.op = Op.call { callee := Callee.builtin Builtin.append, args := #[s, x], argTypes := #[t, tx] })
    (vs vx : Value) (hs : a.eval s = vs) (hx : a.eval x = vx) (v' : Value) (w' : World) (hr : (Builtin.append_ #[t, tx] o.type #[vs, vx]).run P w = .ok v' w') (hK : K (a.put o.dst v') w') :
    if Region.wanted o (yielded ops a.tmps) = true then Oper.wp P o a w K Q else E := by
  have hw : Region.wanted o (yielded ops a.tmps) = true := by simp [Region.wanted, hg]
  rw [if_pos hw]
  unfold Oper.wp
  simp [execOp, hop, resolve, invoke, builtin, hs, hx, hr, Result.andThen]
  exact hK
set_option maxRecDepth 100000 in
set_option maxHeartbeats 4000000 in
theorem rfcopy_any (r : Nat) (S : SpV) (L : List Int) (v : Value) (w : World) (h : RfM w r S L v) :
    Calls Try.prog 12 #[.pointer (some ⟨r, 0, none⟩)] w fun e w' => ∃ u, e = .returned u ∧ NewRf S w u w' := by
  have c0 := h.blk.cell 0 rfl
  have c1 := h.blk.cell 1 rfl
  have hL := h.lst.le h.ok
  obtain ⟨a, cap, rfl, hc1, hc2⟩ := h.own.slice
  unfold maxLen at hc2
  obtain ⟨w1, hw1⟩ : ∃ w1, w.alloc (.cells #[.int .i64 (S.a : Nat), .int .i64 (S.n : Nat), .slice none 0 0] 45) = w1 := ⟨_, rfl⟩
  obtain ⟨c, hc⟩ : ∃ c, w.heap.size = c := ⟨_, rfl⟩
  have f1 : Frm (fun _ => False) w w1 := by rw [← hw1]; exact (Frm.refl _ w).alloc _
  have b1 : Blk w1 c 45 #[.int .i64 (S.a : Nat), .int .i64 (S.n : Nat), .slice none 0 0] := by rw [← hw1, ← hc]; exact Blk.alloc w _ _
  have h1 := h.keepF f1
  obtain ⟨v4, w4, e4, o4, g4, n4⟩ := append_is w1.drew.drew (.slice none 0 0) _ [] L (OwnI.nil_ _) (h1.own.zs.keepF ((Frm.refl _ _).drew.drew)) (by simp; omega)
  rw [List.nil_append] at o4
  have F4 : Frm (fun _ => False) w1 w4 := ((Frm.refl _ w1).drew.drew).grown g4 (fun k hk e => by cases e)
  have N4 : ∀ g, v4.ownBlock = some g → w1.heap.size ≤ g := fun g hg => (n4 g hg).elim (fun h => by cases h) id
  have z4 := F4.size
  have z1 := f1.size
  have hcl := b1.lt
  have b4 := b1.keep F4 (fun h => h)
  have d2 := b4.cell 2 rfl
  have g2 := b4.free 2
  have e2 := b1.cell 2 rfl
  have e3 := h1.blk.cell 2 rfl
  obtain ⟨a4, k4, rfl, _, _⟩ := o4.slice
  have HE : NewRf S w (.pointer (some ⟨c, 0, none⟩)) (w4.setCell ⟨c, 2, none⟩ (.slice a4 L.length k4)) :=
    ⟨c, L, .slice a4 L.length k4, rfl, ⟨h.ok, h.lst, b4.set 2 _, Row.setOther o4 (fun e => by have := N4 c e; omega) _, fun b hb e => by have := N4 b hb; omega⟩, by omega, fun b hb => by have := N4 b hb; omega, (f1.trans F4).setCell (fun h => by have h : c < w.heap.size := h; omega) _⟩
  have HE := Lib.hid HE
  have H4 := Lib.hid e4
  have f0 := Frm.refl (fun _ => False) w
  have F1 := Lib.hid f1
  clear h h1 f1 b1 o4 g4 n4 F4 N4 z4 z1 b4 e4 hcl
  go_enter Try.func12, Try.ntmps12
  go_upto_region 1 with fail
  go_region_held3 (fun w' => w'.cell? ⟨r, 0, none⟩ = some (.int .i64 (S.a : Nat)) ∧ w'.cell? ⟨r, 1, none⟩ = some (.int .i64 (S.n : Nat)) ∧ Frm (fun _ => False) w w')
    (((try dsimp only); (try go_split_ands); (repeat' apply And.intro) <;> (first
      | assumption
      | exact Frm.drew (by assumption)
      | exact Frm.cellF (Frm.drew F1.out) c0
      | exact Frm.cellF (Frm.drew F1.out) c1
      | exact Frm.drew F1.out
      | go_keep)))
    (fail)
  all_goals
    rename_i hh
    clear hh
    go_wp2_with fail
    go_region_law ((refine step_append_runS rfl (.tmp 18) (.tmp 22) 23 23 rfl (.slice none 0 0) (.slice a L.length cap) ?h1 ?h2 _ w4 H4.out ?_; (case h1 => go_simp); (case h2 => go_simp)))
  all_goals
    go_wp2_with fail
    go_ret
    exact ⟨_, rfl, HE.out⟩
end Go.Proofs.Ytdhnidmeeocajaa
