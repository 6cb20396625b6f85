/- What the document's Copy and New make. No condition. -/
import Derived.Test.YtdhnidmeeocajaaGreatDvU
import Derived.Deep.RegionLaw
section
namespace Go.Proofs.YtdhnidmeeocajaaGreat
open Go.RowKit Go.Shelf

theorem step_append_runD {P : Program} {ops : Array Oper} {o : Oper} {a : Act} {w : World} {K : Act → World → Prop} {Q : Exit → Act → World → Prop} {E : Prop}
    (hg : o.guard = none) (s x : Operand) (t tx : TypeId) (hop : o.op = Op.call { callee := Callee.builtin Builtin.append, args := #[s, x], argTypes := #[t, tx] })
    (vs vx : Value) (hs : a.eval s = vs) (hx : a.eval x = vx) (v' : Value) (w' : World) (hr : (Builtin.append_ #[t, tx] o.type #[vs, vx]).run P w = .ok v' w') (hK : K (a.put o.dst v') w') :
    if Region.wanted o (yielded ops a.tmps) = true then Oper.wp P o a w K Q else E := by
  have hw : Region.wanted o (yielded ops a.tmps) = true := by simp [Region.wanted, hg]
  rw [if_pos hw]
  unfold Oper.wp
  simp [execOp, hop, resolve, invoke, builtin, hs, hx, hr, Result.andThen]
  exact hK
theorem RefC.zero (w : World) : RefC (w.alloc (.cells #[.slice none 0 0, .slice none 0 0] 76)) w.heap.size [] [] (fun k => k = w.heap.size) (.slice none 0 0) (.slice none 0 0) :=
  ⟨Blk.alloc _ _ _, Row.nil_ _ 1, Row.nil_ _ 2, rfl, (fun g h => by cases h), (fun g h => by cases h), (fun k hk => by have e : k = w.heap.size := hk; subst e; simp)⟩
theorem RefC.drew {w : World} {r : Nat} {A : List (List UInt8)} {B : List (Nat × List UInt8)} {fp : Nat → Prop} {va vb : Value} (h : RefC w r A B fp va vb) : RefC w.drew r A B fp va vb := h.keep ((Frm.refl (fun _ => False) w).drew) fun _ _ h => h
/-- A new device of the document. -/
def NewRef (D : DV) (w : World) (v : Value) (w' : World) : Prop := ∃ r fp, v = .pointer (some ⟨r, 0, none⟩) ∧ RefM w' r D fp ∧ Frm (fun _ => False) w w' ∧ ∀ k, fp k → w.heap.size ≤ k

end Go.Proofs.YtdhnidmeeocajaaGreat
end
section
namespace Go.Proofs.YtdhnidmeeocajaaGreat
open Go.RowKit Go.Shelf

theorem Strs.one (w : World) (s : List UInt8) (m : Nat) (hm : w.heap.size = m) : Strs (w.alloc (.cells #[.string (bs s)] 9)) (.slice (some ⟨m, 0, none⟩) 1 1) [s] := by
  subst hm
  refine ⟨rfl, _, 1, rfl, Nat.le_refl _, by decide, .inr ⟨_, 0, rfl, by simp, fun j hj => ?_⟩⟩
  have hb := Blk.alloc w 9 #[.string (bs s)]
  obtain rfl : j = 0 := by simp at hj; omega
  exact hb.cell 0 rfl
theorem FRs_new (n : Nat) : FRs (DV.new n) = List.replicate n zb := by
  unfold FRs DV.new
  apply List.ext_getElem
  · simp
  · intro i h1 h2; simp
theorem FLs_new (n : Nat) : FLs (DV.new n) = [] := FLs_none fun _ => rfl
theorem RefC.putN {w w4 : World} {r : Nat} {A A' : List (List UInt8)} {B : List (Nat × List UInt8)} {fp : Nat → Prop} {va vb v4 : Value} {m : Nat} (h : RefC w r A B fp va vb) (g : Frm (fun j => va.ownBlock = some j) w w4) (o : OwnS w4 v4 A') (n : ∀ g, v4.ownBlock = some g → va.ownBlock = some g ∨ w.heap.size + m ≤ g) :
    RefC (w4.setCell ⟨r, 0, none⟩ v4) r A' B (fun k => fp k ∨ (w.heap.size ≤ k ∧ k < w4.heap.size)) v4 vb := by
  have hr := h.lt r h.fr
  refine ⟨(h.blk.keep g (fun e => (h.fa r e).2 rfl)).set 0 v4, Row.setOther o (fun e => ?_) v4, Row.setOther (Row.keep h.list g (fun j hj e => (h.fb j hj).2.2 e)) (fun e => (h.fb r e).2.1 rfl) v4, .inl h.fr, fun g hg => ⟨?_, ?_⟩, fun g hg => ⟨.inl (h.fb g hg).1, (h.fb g hg).2.1, fun e => ?_⟩, fun k hk => ?_⟩
  · rcases n r e with e | e
    · exact (h.fa r e).2 rfl
    · omega
  · rcases n g hg with e | e
    · exact .inl (h.fa g e).1
    · exact .inr ⟨by omega, Row.blk o g hg⟩
  · rcases n g hg with e | e
    · exact (h.fa g e).2
    · omega
  · rcases n g e with e | e
    · exact (h.fb g hg).2.2 e
    · have := h.lt g (h.fb g hg).1
      omega
  · have e : (w4.setCell ⟨r, 0, none⟩ v4).heap.size = w4.heap.size := by simp [World.setCell]
    rw [e]
    have := g.size
    rcases hk with hk | hk
    · have := h.lt k hk; omega
    · exact hk.2
set_option maxRecDepth 100000 in
set_option maxHeartbeats 4000000 in
theorem rnew_any (n : Nat) (w : World) (hn : n ≤ 2048) :
    Calls Tryz.prog 11 #[.int .i64 (n : Int)] w fun e w' => ∃ v, e = .returned v ∧ NewRef (DV.new n) w v w' := by
  obtain ⟨w1, hw1⟩ : ∃ w1, w.alloc (.cells #[.slice none 0 0, .slice none 0 0] 76) = w1 := ⟨_, rfl⟩
  obtain ⟨c, hc⟩ : ∃ c, w.heap.size = c := ⟨_, rfl⟩
  have hz := RefC.zero w
  rw [hw1, hc] at hz
  have f1 : Frm (fun _ => False) w w1 := by rw [← hw1]; exact (Frm.refl _ w).alloc _
  obtain ⟨z0, hz0⟩ : ∃ z0, List.replicate 64 (0 : UInt8) = z0 := ⟨_, rfl⟩
  have hmk : ∀ W : World, (Instr.makeSlice 77 (.int .i64 64) (.int .i64 64)).run Tryz.prog W = .ok (.slice (some ⟨W.heap.size, 0, none⟩) 64 64) (W.alloc (.cells (u8s (z0)).toArray 5)) := by rw [← hz0]; exact run_makeZ 64 (by omega)
  have hcv : ∀ W : World, (convert 77 9 (.slice (some ⟨W.heap.size, 0, none⟩) 64 64)).run Tryz.prog (W.alloc (.cells (u8s (z0)).toArray 5)) = .ok (.string (bs zb)) (W.alloc (.cells (u8s (z0)).toArray 5)) := by
    have := run_textZ 64
    rw [hz0] at this
    rw [show zb = z0 from hz0]
    exact this
  have H1 := Lib.hid (And.intro hz f1)
  clear hz f1 hz0
  go_enter Tryz.func11, Tryz.ntmps11
  go_wp2_with fail
  (try rw [hw1])
  (try rw [hc])
  have HW := Lib.hid hw1
  have HC := Lib.hid hc
  clear hw1 hc
  go_loopw [4] (fun i wr => ∃ k : Nat, k ≤ n ∧ i = .int .i64 (k : Nat) ∧ Frm (fun _ => False) w wr ∧ ∃ va fp, RefC wr c (List.replicate k zb) [] fp va (.slice none 0 0) ∧ ∀ j, fp j → c ≤ j) (fun i _ => n - (intOf i).toNat)
  case atStart => exact ⟨0, Nat.zero_le _, rfl, H1.out.2, _, _, H1.out.1, fun j h => Nat.le_of_eq (Eq.symm h)⟩
  case round =>
    obtain ⟨k, hk, rfl, g0, va, fp, hR, hfp⟩ := hrel
    by_cases hlt : k < n
    · have hki : (k : Int) < (n : Int) := by omega
      have hcv2 : (convert 77 9 (.slice (some ⟨wr.heap.size, 0, none⟩) 64 64)).run Tryz.prog (wr.alloc (.cells (u8s (z0)).toArray 5)).drew = .ok (.string (bs zb)) (wr.alloc (.cells (u8s (z0)).toArray 5)).drew := hcv wr.drew
      have hlen : (List.replicate k zb).length = k := List.length_replicate
      obtain ⟨v4, w4, e4, o4, g4, n4⟩ := append_sts (((wr.alloc (.cells (u8s (z0)).toArray 5)).alloc (.cells #[.string (bs zb)] 9)).drew) va (.slice (some ⟨wr.heap.size + 1, 0, none⟩) 1 1) (List.replicate k zb) [zb]
        (Row.alloc (Row.alloc hR.firm _) _) (show Strs ((wr.alloc (.cells (u8s (z0)).toArray 5)).alloc (.cells #[.string (bs zb)] 9)) _ _ from Strs.one _ zb _ (by rw [World.size_alloc])) (by rw [hlen]; simp; omega)
      have eL : (List.replicate k zb ++ [zb]) = List.replicate (k + 1) zb := by rw [List.replicate_succ']
      rw [eL] at o4
      have F4 : Frm (fun _ => False) wr (((wr.alloc (.cells (u8s (z0)).toArray 5)).alloc (.cells #[.string (bs zb)] 9)).drew) := (((Frm.refl _ wr).alloc _).alloc _).drew
      have hs2 : ((wr.alloc (.cells (u8s (z0)).toArray 5)).alloc (.cells #[.string (bs zb)] 9)).drew.heap.size = wr.heap.size + 2 := by show (World.alloc (World.alloc _ _) _).heap.size = _; rw [World.size_alloc, World.size_alloc]
      rw [hs2] at n4
      have F4' : Frm (fun j => va.ownBlock = some j) wr w4 := (F4.mono fun _ _ h => h.elim).trans (frm_grown g4)
      have hz := RefC.putN hR F4' o4 n4
      have hcw : c < w1.heap.size := H1.out.1.lt c rfl
      have hb4 := hR.blk.keep F4' (fun e => (hR.fa c e).2 rfl)
      have c4 := hb4.cell 0 rfl
      have z4 := hb4.free 0
      have b0 := hR.blk.cell 0 rfl
      have b1 := hR.blk.old (.cells (u8s (z0)).toArray 5)
      have b2 := b1.old (.cells #[.string (bs zb)] 9)
      have b1 := b1.drew.cell 0 rfl
      have b2 := b2.drew.cell 0 rfl
      obtain ⟨a4, k4, rfl, _, _⟩ := Row.slice o4
      obtain ⟨N4, hN⟩ : ∃ N, (List.replicate (k + 1) zb).length = N := ⟨_, rfl⟩
      rw [hN] at e4 hz
      have F5 : Frm (fun _ => False) w (w4.setCell ⟨c, 0, none⟩ (.slice a4 N4 k4)) := (g0.next F4' fun j hj e => by have := hfp j (hR.fa j e).1; rw [← HC.out] at this; omega).setCell (fun h => by have e : c < w.heap.size := h; rw [HC.out] at e; omega) _
      have HZ := Lib.hid (And.intro hz F5)
      have HE := Lib.hid e4
      have HR := Lib.hid (And.intro hR (And.intro hfp (And.intro F4' g0)))
      clear e4 hz hR hfp F4 F4' g0 o4 g4 n4 hN hlen eL hs2 hb4
      go_wp2_with fail
      go_region_law ((refine step_append_runD rfl (.tmp 16) (.tmp 19) 60 60 rfl va (.slice (some ⟨wr.heap.size + 1, 0, none⟩) 1 1) ?h1 ?h2 _ w4 HE.out ?_; (case h1 => go_simp); (case h2 => go_simp)))
      all_goals
        go_wp2_with fail
        go_roundw
        case rel =>
          refine ⟨k + 1, by omega, by go_num, HZ.out.2, _, _, HZ.out.1, fun j hj => ?_⟩
          rcases hj with hj | ⟨hj, _⟩
          · exact HR.out.2.1 j hj
          · have := HR.out.1.lt c HR.out.1.fr; omega
        case measure => simp [intOf]; omega
    · obtain rfl : k = n := by omega
      go_wp2_with fail
      go_ret
      exact ⟨_, rfl, c, fp, rfl, ⟨_, _, by rw [FRs_new, FLs_new]; exact hR⟩, g0, fun j h => by rw [HC.out]; exact hfp j h⟩
end Go.Proofs.YtdhnidmeeocajaaGreat
end
