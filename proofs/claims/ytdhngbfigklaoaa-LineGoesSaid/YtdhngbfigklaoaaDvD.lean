/- A device in memory: itself, its two maps; whether it is one, what a call for a block is told. No condition. -/
import Derived.Test.YtdhngbfigklaoaaDvC
import Derived.Test.YtdhngbfigklaoaaHashS
import Derived.LaidEqlPtr
namespace Go.Proofs.Ytdhngbfigklaoaa
open Go.RowKit

/-- The firm bytes, as the map has them. -/
def DV.firmG (D : DV) (k : Nat) : Option (List UInt8) := if D.F k = zb then none else some (D.F k)
theorem DV.firmG_get (D : DV) (k : Nat) : (D.firmG k).getD zb = D.F k := by
  unfold DV.firmG
  split
  · rename_i e; rw [e]; rfl
  · rfl
/-- The device at block b, with the maps f and x. -/
structure DevM (w : World) (b f x : Nat) (D : DV) : Prop where
  blk : Blk w b 57 #[.pointer (some ⟨b, 0, none⟩), .int .i64 (D.n : Nat), .map (some f), .map (some x)]
  firm : MapB w f D.n D.firmG
  fresh : MapB w x D.n D.X
  bf : b ≠ f
  bx : b ≠ x
  fx : f ≠ x
  ok : D.ok
section
variable {w w' : World} {b f x : Nat} {D : DV}
theorem DevM.keep {X : Nat → Prop} (h : DevM w b f x D) (hf : Frm X w w') (h1 : ¬ X b) (h2 : ¬ X f) (h3 : ¬ X x) : DevM w' b f x D :=
  ⟨h.blk.keep hf h1, h.firm.keep hf h2, h.fresh.keep hf h3, h.bf, h.bx, h.fx, h.ok⟩
theorem DevM.keepF (h : DevM w b f x D) (hf : Frm (fun _ => False) w w') : DevM w' b f x D := h.keep hf (fun h => h) (fun h => h) (fun h => h)
theorem DevM.lt (h : DevM w b f x D) : b < w.heap.size ∧ f < w.heap.size ∧ x < w.heap.size := ⟨h.blk.lt, h.firm.lt, h.fresh.lt⟩
theorem DevM.self (h : DevM w b f x D) : w.cell? ⟨b, 0, none⟩ = some (.pointer (some ⟨b, 0, none⟩)) := h.blk.cell 0 rfl
theorem DevM.n (h : DevM w b f x D) : w.cell? ⟨b, 1, none⟩ = some (.int .i64 (D.n : Nat)) := h.blk.cell 1 rfl
theorem DevM.fc (h : DevM w b f x D) : w.cell? ⟨b, 2, none⟩ = some (.map (some f)) := h.blk.cell 2 rfl
theorem DevM.xc (h : DevM w b f x D) : w.cell? ⟨b, 3, none⟩ = some (.map (some x)) := h.blk.cell 3 rfl
end
theorem dev_same (w : World) (a : Addr) : (binOp .eql 26 (.pointer (some a)) (.pointer (some a))).run Try.prog w = .ok (.bool true) w := by
  obtain ⟨j, hj⟩ := Option.isSome_iff_exists.1 (show (Try.prog.info? 57).isSome = true by kernel_rfl)
  exact run_eql_ptr_same w a Try.underlying26 hj
set_option maxHeartbeats 400000 in
theorem dmade_any (b f x : Nat) (D : DV) (w : World) (h : DevM w b f x D) :
    Calls Try.prog 39 #[.pointer (some ⟨b, 0, none⟩)] w fun e w' => e = .returned (.bool true) ∧ w = w' := by
  have c0 := h.self
  have hq := dev_same
  clear h
  go_enter Try.func39, Try.ntmps39
  go_wp2
  go_ret
  exact ⟨rfl, rfl⟩
/-- Is there no such block? -/
def DV.bad (D : DV) (at_ : Int) : Bool := decide (at_ < 0 ∨ (D.n : Int) ≤ at_)
set_option maxRecDepth 100000 in
set_option maxHeartbeats 1000000 in
theorem dcheck_any (b f x : Nat) (D : DV) (q : Int) (w : World) (h : DevM w b f x D) :
    Calls Try.prog 42 #[.pointer (some ⟨b, 0, none⟩), .int .i64 q] w fun e w' => e = .returned (.int .i64 (if D.bad q then 2 else 0)) ∧ w = w' := by
  have c1 := h.n
  have HM := Lib.hid (fun W => dmade_any b f x D W)
  have H := Lib.hid h
  clear h
  by_cases h1 : q < 0
  · have hb : D.bad q = true := decide_eq_true (.inl h1)
    rw [hb]
    go_enter Try.func42, Try.ntmps42
    go_wp2_with fail
    refine (HM.out _ H.out).mono ?_
    rintro e w1 ⟨rfl, rfl⟩
    go_wp2_with fail
    go_ret
    exact ⟨rfl, rfl⟩
  · by_cases h2 : (D.n : Int) ≤ q
    · have hb : D.bad q = true := decide_eq_true (.inr h2)
      rw [hb]
      go_enter Try.func42, Try.ntmps42
      go_wp2_with fail
      refine (HM.out _ H.out).mono ?_
      rintro e w1 ⟨rfl, rfl⟩
      go_wp2_with fail
      go_ret
      exact ⟨rfl, rfl⟩
    · have hb : D.bad q = false := decide_eq_false (by omega)
      rw [hb]
      go_enter Try.func42, Try.ntmps42
      go_wp2_with fail
      refine (HM.out _ H.out).mono ?_
      rintro e w1 ⟨rfl, rfl⟩
      go_wp2_with fail
      go_ret
      exact ⟨rfl, rfl⟩
end Go.Proofs.Ytdhngbfigklaoaa

