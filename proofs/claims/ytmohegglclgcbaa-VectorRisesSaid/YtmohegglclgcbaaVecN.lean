/- Some of the chapter's answers hold. No condition. -/
import Derived.Test.YtmohegglclgcbaaVecM
namespace Go.Proofs.Ytmohegglclgcbaa
open Go.RowKit

/-- A call that only makes memory of its own answers v. -/
abbrev Ans (f : FuncId) (args : Array Value) (v : Value) : Prop := Hid (∀ w, Calls Try.prog f args w fun e w' => e = .returned v ∧ Frm (fun _ => False) w w')

theorem fOf (a b : Nat) : Ans 51 #[.int .u32 a, .int .u32 b] (.agg (vv (of2 a b))) := Lib.hid fun w => of_any a b w
theorem fJoin (f g : Nat → Nat) : Ans 11 #[.agg (vv f), .agg (vv g)] (.agg (vv (jn8 f g))) := Lib.hid fun w => join_any f g w
theorem fCmp (f g : Nat → Nat) (n : Nat) (h : cmp8 f g = n) : Ans 12 #[.agg (vv f), .agg (vv g)] (.int .i64 n) := Lib.hid fun w => by
  rw [← h]; exact cmp_any f g w
theorem fText (f : Nat → Nat) (l : List UInt8) (hf : Fit8 f) (h : putS f = (l, 0)) : Ans 52 #[.agg (vv f), .string (bs l)] (.bool true) := Lib.hid fun w => text_true f l w hf h
theorem fTakes (l : List UInt8) (f g : Nat → Nat) (x : Nat) (hl : l.length ≤ 10) (h : takeS l 0 = (g, x)) (hg : eq8 g f = true) : Ans 53 #[.string (bs l), .agg (vv f), .int .i64 x] (.bool true) :=
  Lib.hid fun w => takes_true l f g x w (by omega) h hg
theorem fEq (f g : Nat → Nat) (q : Bool) (h : eq8 f g = q) : ∀ w, (Op.equalIn 10000 24 (.agg (vv f)) (.agg (vv g))).run Try.prog w = .ok q w := fun w => by rw [run_eq_vec, h]

set_option maxRecDepth 100000 in
set_option maxHeartbeats 1000000 in
theorem vawake_any (w : World) : Calls Try.prog 15 #[] w fun e w' => e = .returned (.bool true) ∧ Frm (fun _ => False) w w' := by
  have h12 : Ans 51 #[.int .u32 1, .int .u32 2] (.agg (vv (of2 1 2))) := fOf 1 2
  have h31 : Ans 51 #[.int .u32 3, .int .u32 1] (.agg (vv (of2 3 1))) := fOf 3 1
  have h32 : Ans 51 #[.int .u32 3, .int .u32 2] (.agg (vv (of2 3 2))) := fOf 3 2
  have h13 : Ans 51 #[.int .u32 1, .int .u32 300] (.agg (vv (of2 1 300))) := fOf 1 300
  have h00 : Ans 51 #[.int .u32 0, .int .u32 0] (.agg (vv (of2 0 0))) := fOf 0 0
  have hj := fJoin (of2 1 2) (of2 3 1)
  have hc : Ans 12 #[.agg (vv (of2 1 2)), .agg (vv (of2 3 1))] (.int .i64 3) := fCmp (of2 1 2) (of2 3 1) 3 rfl
  have ht : Ans 52 #[.agg (vv (of2 1 300)), .string ⟨#[3, 1, 172, 2]⟩] (.bool true) := fText (of2 1 300) [3, 1, 172, 2] (of2_fit (by omega) (by omega)) (by kernel_rfl)
  have hk : Ans 53 #[.string ⟨#[3, 1]⟩, .agg (vv (of2 0 0)), .int .i64 10] (.bool true) := fTakes [3, 1] (of2 0 0) (fun _ => 0) 10 (by decide) (by kernel_rfl) rfl
  have he := fEq (jn8 (of2 1 2) (of2 3 1)) (of2 3 2) true rfl
  go_enter Try.func15, Try.ntmps15
  go_upto_region 1 with fail
  refine wp_region_seq (fun w' => Frm (fun _ => False) w w') rfl (Frm.refl _ w) ?_
  repeat' first
    | (refine CanonL.skip (by rfl) ?_; (try simp only [Act.put, List.setIfInBounds_toArray, List.set_cons_zero, List.set_cons_succ]))
    | (refine CanonL.callT (by rfl) ?_ h12 ?_ ?_; (focus (intro w; go_simp; (try (with_reducible rfl)); done)); (focus (rintro w ww hs gg; exact hs.trans gg)); (try simp only [Act.put, List.setIfInBounds_toArray, List.set_cons_zero, List.set_cons_succ]))
    | (refine CanonL.callT (by rfl) ?_ h31 ?_ ?_; (focus (intro w; go_simp; (try (with_reducible rfl)); done)); (focus (rintro w ww hs gg; exact hs.trans gg)); (try simp only [Act.put, List.setIfInBounds_toArray, List.set_cons_zero, List.set_cons_succ]))
    | (refine CanonL.callT (by rfl) ?_ h32 ?_ ?_; (focus (intro w; go_simp; (try (with_reducible rfl)); done)); (focus (rintro w ww hs gg; exact hs.trans gg)); (try simp only [Act.put, List.setIfInBounds_toArray, List.set_cons_zero, List.set_cons_succ]))
    | (refine CanonL.callT (by rfl) ?_ h13 ?_ ?_; (focus (intro w; go_simp; (try (with_reducible rfl)); done)); (focus (rintro w ww hs gg; exact hs.trans gg)); (try simp only [Act.put, List.setIfInBounds_toArray, List.set_cons_zero, List.set_cons_succ]))
    | (refine CanonL.callT (by rfl) ?_ h00 ?_ ?_; (focus (intro w; go_simp; (try (with_reducible rfl)); done)); (focus (rintro w ww hs gg; exact hs.trans gg)); (try simp only [Act.put, List.setIfInBounds_toArray, List.set_cons_zero, List.set_cons_succ]))
    | (refine CanonL.callT (by rfl) ?_ hj ?_ ?_; (focus (intro w; go_simp; (try (with_reducible rfl)); done)); (focus (rintro w ww hs gg; exact hs.trans gg)); (try simp only [Act.put, List.setIfInBounds_toArray, List.set_cons_zero, List.set_cons_succ]))
    | (refine CanonL.callT (by rfl) ?_ hc ?_ ?_; (focus (intro w; go_simp; (try (with_reducible rfl)); done)); (focus (rintro w ww hs gg; exact hs.trans gg)); (try simp only [Act.put, List.setIfInBounds_toArray, List.set_cons_zero, List.set_cons_succ]))
    | (refine CanonL.callT (by rfl) ?_ ht ?_ ?_; (focus (intro w; go_simp; (try (with_reducible rfl)); done)); (focus (rintro w ww hs gg; exact hs.trans gg)); (try simp only [Act.put, List.setIfInBounds_toArray, List.set_cons_zero, List.set_cons_succ]))
    | (refine CanonL.callT (by rfl) ?_ hk ?_ ?_; (focus (intro w; go_simp; (try (with_reducible rfl)); done)); (focus (rintro w ww hs gg; exact hs.trans gg)); (try simp only [Act.put, List.setIfInBounds_toArray, List.set_cons_zero, List.set_cons_succ]))
    | (refine CanonL.val (v := ?_) (by rfl) ?_ ?_; rotate_left 1; (focus (intro w hSw; (try dsimp only at hSw); go_simp; (try (with_reducible rfl)); done)); (try simp only [Act.put, List.setIfInBounds_toArray, List.set_cons_zero, List.set_cons_succ]))
  refine CanonL.done ?_
  intro w9 hS9
  go_wp2_with fail
  go_ret
  exact ⟨rfl, hS9⟩
end Go.Proofs.Ytmohegglclgcbaa
