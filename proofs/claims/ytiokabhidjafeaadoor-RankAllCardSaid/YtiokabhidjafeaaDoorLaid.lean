/- What strings.Join and path.Text answer. No condition. -/
import Derived.Test.YtiokabhidjafeaaDoorNames
import Derived.Lib.Join
import Derived.Test.YtiokabhidjafeaaDoorPathC
import Derived.Test.YtiokabhidjafeaaDoorDigs
import Derived.Stop.LaidErr
import Derived.Stop.Joined
import Derived.LaidMore
import Derived.ProofKit
section
namespace Go.Proofs.YtiokabhidjafeaaDoor
open Go.RowKit Go.Shelf
attribute [local go_sem] Oper.semAt_some

/-- Between two rounds of Text: these were names. -/
structure TxI (w : World) (pre : List (List UInt8)) (W : World) : Prop where
  ok : ∀ s ∈ pre, chk s = 0
  res : Blk W w.heap.size 9 #[.string ⟨#[]⟩]
  err : Blk W (w.heap.size + 1) 56 #[.int .i64 0]
  frm : Fr w W
/-- Where a round of Text has left: one is none. -/
structure TxX (w : World) (pre : List (List UInt8)) (W : World) : Prop where
  bad : ∃ s ∈ pre, chk s ≠ 0
  res : Blk W w.heap.size 9 #[.string ⟨#[]⟩]
  err : Blk W (w.heap.size + 1) 56 #[.int .i64 4]
  frm : Fr w W
theorem TxI.own (w : World) (B : Nat) (hB : w.heap.size ≤ B) : OwnFrom B (TxI w) := fun _ _ _ _ h hg hr => by
  have hr2 := fun r e => (hr r e).2
  exact ⟨h.ok, h.res.turned hg hr2, h.err.turned hg hr2, h.frm.turned hB hg hr⟩
theorem TxX.own (w : World) (B : Nat) (hB : w.heap.size ≤ B) : OwnFrom B (TxX w) := fun _ _ _ _ h hg hr => by
  have hr2 := fun r e => (hr r e).2
  exact ⟨h.bad, h.res.turned hg hr2, h.err.turned hg hr2, h.frm.turned hB hg hr⟩
theorem TxI.step {w W W1 : World} {pre : List (List UInt8)} {x : List UInt8} (hv : TxI w pre W) (n0 : Nat) (f1 : Fr W W1) (hx : chk x = 0) : KeepsOthers W W1 ∧ (n0 ≤ W.heap.size → kept n0 W W1) ∧ TxI w (pre ++ [x]) W1 := by
  refine ⟨f1.others fun _ _ h => h.elim, fun hn k hk => f1.block k (by omega) (fun h => h), fun s hs => ?_, hv.res.keep f1 (fun h => h), hv.err.keep f1 (fun h => h), hv.frm.trans f1⟩
  rcases List.mem_append.1 hs with hs | hs
  · exact hv.ok s hs
  · obtain rfl : s = x := by simpa using hs
    exact hx
theorem TxI.stop {w W W1 : World} {pre : List (List UInt8)} {x : List UInt8} (hv : TxI w pre W) (f1 : Fr W W1) (hx : chk x ≠ 0) :
    KeepsOthers W ((W1.setCell ⟨w.heap.size, 0, none⟩ (.string ⟨#[]⟩)).setCell ⟨w.heap.size + 1, 0, none⟩ (.int .i64 4)) ∧ Code.ret = Code.ret ∧ TxX w (pre ++ [x]) ((W1.setCell ⟨w.heap.size, 0, none⟩ (.string ⟨#[]⟩)).setCell ⟨w.heap.size + 1, 0, none⟩ (.int .i64 4)) := by
  have hX2 : Frm (fun k => k = w.heap.size ∨ k = w.heap.size + 1) W ((W1.setCell ⟨w.heap.size, 0, none⟩ (.string ⟨#[]⟩)).setCell ⟨w.heap.size + 1, 0, none⟩ (.int .i64 4)) :=
    ((f1.mono (fun _ _ h => h.elim)).setCell (p := ⟨w.heap.size, 0, none⟩) (fun _ => .inl rfl) _).setCell (p := ⟨w.heap.size + 1, 0, none⟩) (fun _ => .inr rfl) _
  refine ⟨hX2.others fun k o hk ho2 => ?_, rfl, ⟨x, by simp, hx⟩, ?_, ?_, ?_⟩
  · rcases hk with rfl | rfl
    · exact hv.res.isCells _ o rfl ho2
    · exact hv.err.isCells _ o rfl ho2
  · exact ((hv.res.keep f1 (fun h => h)).set 0 _).other (p := ⟨w.heap.size + 1, 0, none⟩) (by simp) _
  · exact ((hv.err.keep f1 (fun h => h)).other (p := ⟨w.heap.size, 0, none⟩) (by simp) _).set 0 _
  · exact ((hv.frm.trans f1).setCell (p := ⟨w.heap.size, 0, none⟩) (fun h => absurd h (by simp)) _).setCell (p := ⟨w.heap.size + 1, 0, none⟩) (fun h => absurd h (by simp)) _
end Go.Proofs.YtiokabhidjafeaaDoor
end
section
namespace Go.Proofs.YtiokabhidjafeaaDoor

/-- What comes before the first tilde. -/
def base (s : List UInt8) : List UInt8 := (cut 126 s).headD []
/-- Is there a tilde? -/
def tild (s : List UInt8) : Bool := decide (1 < (cut 126 s).length)
/-- What is wrong with the parts of a seen path, the first of which is the i-th one. -/
def seenW : Nat → List (List UInt8) → Nat
  | _, [] => 0
  | i, [s] => if chk (base s) ≠ 0 then chk (base s) else if 4 < i then 3 else if tild s = true ∧ splitO s = none then 4 else 0
  | i, s :: t :: l => if chk s ≠ 0 then chk s else if 4 < i then 3 else seenW (i + 1) (t :: l)
/-- The names of a seen path. -/
def seenN : List (List UInt8) → List (List UInt8)
  | [] => []
  | [s] => [base s]
  | s :: t :: l => s :: seenN (t :: l)
/-- The dot of a seen path. -/
def seenD : List (List UInt8) → Option (Nat × Nat)
  | [] => none
  | [s] => if tild s = true then (splitO s).map (·.2) else none
  | _ :: t :: l => seenD (t :: l)
/-- What a text means as a seen path: its names, the dot, if there is one, or what is wrong. -/
def seen (p : List UInt8) : List (List UInt8) × Option (Nat × Nat) × Nat :=
  if 44 < p.length then ([], none, 3)
  else if (cut 47 p).length < 2 ∨ (cut 47 p).headD [] ≠ [] then ([], none, 4)
  else if p = [47] then ([], none, 0)
  else if seenW 1 (cut 47 p).tail ≠ 0 then ([], none, seenW 1 (cut 47 p).tail)
  else (seenN (cut 47 p).tail, seenD (cut 47 p).tail, 0)
/-- Where names move to. -/
def move (l a b : List (List UInt8)) : List (List UInt8) := if a <+: l then b ++ l.drop a.length else l
end Go.Proofs.YtiokabhidjafeaaDoor
end
section
namespace Go.Proofs.YtiokabhidjafeaaDoor
open Go.ChangeShapes Go.WideShapes Go.ChangeAt Go.RowKit

abbrev theLaid : List (String × DataW Unit) := [("math/bits.deBruijn32tab", Rows.laid_math_bits_deBruijn32tab), ("math/bits.deBruijn64tab", Rows.laid_math_bits_deBruijn64tab), ("internal/strconv.uint64pow10", Rows.laid_internal_strconv_uint64pow10), ("strconv.ErrRange", Rows.laid_strconv_ErrRange), ("strconv.ErrSyntax", Rows.laid_strconv_ErrSyntax)]
theorem door_met (os : Os) (args : Array Value) : laidMetH Tryd.prog theLaid ((World.doorLaid Tryd.prog 4000 os).forCall (fun _ _ => 0) ⟨#[], args, []⟩).memory :=
  laidMetH_of_parts3 (fuel := 8) (laidMet_of_run' 8 (by kernel_rfl) (by kernel_rfl)) (by kernel_rfl) (by kernel_rfl)

theorem gTab : Tryd.prog.globalNamed "internal/strconv.uint64pow10" = some 3 := by kernel_rfl
theorem gTabType : (Tryd.prog.globals[3]?).map (·.type) = some 199 := by kernel_rfl
theorem gRng : Tryd.prog.globalNamed "strconv.ErrRange" = some 2 := by kernel_rfl
theorem gRngType : (Tryd.prog.globals[2]?).map (·.type) = some 129 := by kernel_rfl
theorem gSyn : Tryd.prog.globalNamed "strconv.ErrSyntax" = some 1 := by kernel_rfl
theorem gSynType : (Tryd.prog.globals[1]?).map (·.type) = some 129 := by kernel_rfl
theorem Tryd.cellsErr : Tryd.prog.cellsOf 197 = 1 := by kernel_rfl
theorem Tryd.cellsStr : Tryd.prog.cellsOf 9 = 1 := by kernel_rfl
theorem Tryd.star : "*" ++ "errors.errorString" = "*errors.errorString" := by decide
theorem Tryd.rowErr (u : TypeId) (h : Tryd.prog.typeName? 3 u = some "*errors.errorString") : u = 195 :=
  typeName_ptr_named (nm := "errors.errorString") (by rw [Tryd.star]; kernel_rfl) (by kernel_rfl) (by decide) u (by rw [Tryd.star]; exact h)
theorem vars_of_laid {W : World} (h : laidMetH Tryd.prog theLaid W) : Vars W := by
  rw [MakeChecks.laidMetH_plain _ _ _ (by kernel_rfl)] at h
  have h3 := h.tail.tail
  have h4 := h3.tail
  obtain ⟨a0, s0, hv0, _⟩ := laid_sentinel h4 gRng gRngType Tryd.underlying129 Tryd.rowErr Tryd.underlying195 Tryd.underlying197 rfl rfl Tryd.underlying9 Tryd.cellsErr Tryd.cellsStr
  obtain ⟨a1, s1, hv1, _⟩ := laid_sentinel h4.tail gSyn gSynType Tryd.underlying129 Tryd.rowErr Tryd.underlying195 Tryd.underlying197 rfl rfl Tryd.underlying9 Tryd.cellsErr Tryd.cellsStr
  exact ⟨⟨Lib.tabIs_of_head gTab gTabType Tryd.underlying199 Tryd.underlying127 (by kernel_rfl) (by kernel_rfl) h3⟩, ⟨_, _, hv1⟩, ⟨_, _, hv0⟩⟩
end Go.Proofs.YtiokabhidjafeaaDoor
end
