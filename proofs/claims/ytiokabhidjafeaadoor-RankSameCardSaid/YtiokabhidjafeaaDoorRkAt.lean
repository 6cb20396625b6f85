/- What strings.Join and path.Text answer. No condition. -/
import Derived.Test.YtiokabhidjafeaaDoorNames
import Derived.Lib.Join
import Derived.Test.YtiokabhidjafeaaDoorShelfP
import Derived.Test.YtiokabhidjafeaaDoorDigs
import Derived.Stop.LaidErr
import Derived.Stop.Joined
import Derived.LaidMore
import Derived.ProofKit
import Derived.Test.YtiokabhidjafeaaDoorPathM
import Derived.Test.YtiokabhidjafeaaDoorConf
section
namespace Go.Proofs.YtiokabhidjafeaaDoor
open Go.RowKit Go.Shelf
attribute [local go_sem] Oper.semAt_some

/-- Between two rounds of Text: these were names. -/
structure TxI (w : World) (pre : List (List UInt8)) (W : World) : Prop where
  ok : ∀ s ∈ pre, chk s = 0
  res : Blk W w.heap.size 9 #[.string ⟨#[]⟩]
  err : Blk W (w.heap.size + 1) 56 #[.int .i64 0]
  frm : Fr w W
/-- Where a round of Text has left: one is none. -/
structure TxX (w : World) (pre : List (List UInt8)) (W : World) : Prop where
  bad : ∃ s ∈ pre, chk s ≠ 0
  res : Blk W w.heap.size 9 #[.string ⟨#[]⟩]
  err : Blk W (w.heap.size + 1) 56 #[.int .i64 4]
  frm : Fr w W
theorem TxI.own (w : World) (B : Nat) (hB : w.heap.size ≤ B) : OwnFrom B (TxI w) := fun _ _ _ _ h hg hr => by
  have hr2 := fun r e => (hr r e).2
  exact ⟨h.ok, h.res.turned hg hr2, h.err.turned hg hr2, h.frm.turned hB hg hr⟩
theorem TxX.own (w : World) (B : Nat) (hB : w.heap.size ≤ B) : OwnFrom B (TxX w) := fun _ _ _ _ h hg hr => by
  have hr2 := fun r e => (hr r e).2
  exact ⟨h.bad, h.res.turned hg hr2, h.err.turned hg hr2, h.frm.turned hB hg hr⟩
theorem TxI.step {w W W1 : World} {pre : List (List UInt8)} {x : List UInt8} (hv : TxI w pre W) (n0 : Nat) (f1 : Fr W W1) (hx : chk x = 0) : KeepsOthers W W1 ∧ (n0 ≤ W.heap.size → kept n0 W W1) ∧ TxI w (pre ++ [x]) W1 := by
  refine ⟨f1.others fun _ _ h => h.elim, fun hn k hk => f1.block k (by omega) (fun h => h), fun s hs => ?_, hv.res.keep f1 (fun h => h), hv.err.keep f1 (fun h => h), hv.frm.trans f1⟩
  rcases List.mem_append.1 hs with hs | hs
  · exact hv.ok s hs
  · obtain rfl : s = x := by simpa using hs
    exact hx
theorem TxI.stop {w W W1 : World} {pre : List (List UInt8)} {x : List UInt8} (hv : TxI w pre W) (f1 : Fr W W1) (hx : chk x ≠ 0) :
    KeepsOthers W ((W1.setCell ⟨w.heap.size, 0, none⟩ (.string ⟨#[]⟩)).setCell ⟨w.heap.size + 1, 0, none⟩ (.int .i64 4)) ∧ Code.ret = Code.ret ∧ TxX w (pre ++ [x]) ((W1.setCell ⟨w.heap.size, 0, none⟩ (.string ⟨#[]⟩)).setCell ⟨w.heap.size + 1, 0, none⟩ (.int .i64 4)) := by
  have hX2 : Frm (fun k => k = w.heap.size ∨ k = w.heap.size + 1) W ((W1.setCell ⟨w.heap.size, 0, none⟩ (.string ⟨#[]⟩)).setCell ⟨w.heap.size + 1, 0, none⟩ (.int .i64 4)) :=
    ((f1.mono (fun _ _ h => h.elim)).setCell (p := ⟨w.heap.size, 0, none⟩) (fun _ => .inl rfl) _).setCell (p := ⟨w.heap.size + 1, 0, none⟩) (fun _ => .inr rfl) _
  refine ⟨hX2.others fun k o hk ho2 => ?_, rfl, ⟨x, by simp, hx⟩, ?_, ?_, ?_⟩
  · rcases hk with rfl | rfl
    · exact hv.res.isCells _ o rfl ho2
    · exact hv.err.isCells _ o rfl ho2
  · exact ((hv.res.keep f1 (fun h => h)).set 0 _).other (p := ⟨w.heap.size + 1, 0, none⟩) (by simp) _
  · exact ((hv.err.keep f1 (fun h => h)).other (p := ⟨w.heap.size, 0, none⟩) (by simp) _).set 0 _
  · exact ((hv.frm.trans f1).setCell (p := ⟨w.heap.size, 0, none⟩) (fun h => absurd h (by simp)) _).setCell (p := ⟨w.heap.size + 1, 0, none⟩) (fun h => absurd h (by simp)) _
end Go.Proofs.YtiokabhidjafeaaDoor
end
section
namespace Go.Proofs.YtiokabhidjafeaaDoor

/-- What comes before the first tilde. -/
def base (s : List UInt8) : List UInt8 := (cut 126 s).headD []
/-- Is there a tilde? -/
def tild (s : List UInt8) : Bool := decide (1 < (cut 126 s).length)
/-- What is wrong with the parts of a seen path, the first of which is the i-th one. -/
def seenW : Nat → List (List UInt8) → Nat
  | _, [] => 0
  | i, [s] => if chk (base s) ≠ 0 then chk (base s) else if 4 < i then 3 else if tild s = true ∧ splitO s = none then 4 else 0
  | i, s :: t :: l => if chk s ≠ 0 then chk s else if 4 < i then 3 else seenW (i + 1) (t :: l)
/-- The names of a seen path. -/
def seenN : List (List UInt8) → List (List UInt8)
  | [] => []
  | [s] => [base s]
  | s :: t :: l => s :: seenN (t :: l)
/-- The dot of a seen path. -/
def seenD : List (List UInt8) → Option (Nat × Nat)
  | [] => none
  | [s] => if tild s = true then (splitO s).map (·.2) else none
  | _ :: t :: l => seenD (t :: l)
/-- What a text means as a seen path: its names, the dot, if there is one, or what is wrong. -/
def seen (p : List UInt8) : List (List UInt8) × Option (Nat × Nat) × Nat :=
  if 44 < p.length then ([], none, 3)
  else if (cut 47 p).length < 2 ∨ (cut 47 p).headD [] ≠ [] then ([], none, 4)
  else if p = [47] then ([], none, 0)
  else if seenW 1 (cut 47 p).tail ≠ 0 then ([], none, seenW 1 (cut 47 p).tail)
  else (seenN (cut 47 p).tail, seenD (cut 47 p).tail, 0)
/-- Where names move to. -/
def move (l a b : List (List UInt8)) : List (List UInt8) := if a <+: l then b ++ l.drop a.length else l
end Go.Proofs.YtiokabhidjafeaaDoor
end
section
namespace Go.Proofs.YtiokabhidjafeaaDoor
open Go.ChangeShapes Go.WideShapes Go.ChangeAt Go.RowKit

theorem gTab : Tryd.prog.globalNamed "internal/strconv.uint64pow10" = some 3 := by kernel_rfl
theorem gTabType : (Tryd.prog.globals[3]?).map (·.type) = some 199 := by kernel_rfl
/-- The same, where the table alone is listed. -/
abbrev theLaidT : List (String × DataW Unit) := [("math/bits.deBruijn32tab", Rows.laid_math_bits_deBruijn32tab), ("math/bits.deBruijn64tab", Rows.laid_math_bits_deBruijn64tab), ("internal/strconv.uint64pow10", Rows.laid_internal_strconv_uint64pow10)]
theorem door_metT (os : Os) (args : Array Value) : laidMetH Tryd.prog theLaidT ((World.doorLaid Tryd.prog 4000 os).forCall (fun _ _ => 0) ⟨#[], args, []⟩).memory :=
  laidMetH_of_parts3 (fuel := 8) (laidMet_of_run' 8 (by kernel_rfl) (by kernel_rfl)) (by kernel_rfl) (by kernel_rfl)
theorem vart_of_laid {W : World} (h : laidMetH Tryd.prog theLaidT W) : VarT W := by
  rw [MakeChecks.laidMetH_plain _ _ _ (by kernel_rfl)] at h
  have h3 := h.tail.tail
  exact ⟨Lib.tabIs_of_head gTab gTabType Tryd.underlying199 Tryd.underlying127 (by kernel_rfl) (by kernel_rfl) h3⟩
end Go.Proofs.YtiokabhidjafeaaDoor
end
section
namespace Go.Proofs.YtiokabhidjafeaaDoor
open Go.RowKit Go.Shelf

/-- The conflict name of a dot, empty if there is none. -/
def cfR (nm : List UInt8) (d : DotI) : List UInt8 := (conflict nm d.r d.n).1
theorem at14_laid (f : Nat → Nat) (nm : List UInt8) (v : Value) (l : List SibI) (q : Bool) (w : World) (hv : VarT w) (h : SL w v l) (hs : ∀ x ∈ l, x.s.length ≤ 200) (hb : l.length ≤ 1000) :
    Calls Tryd.prog 14 #[rg f v, .string (bs nm), .bool q] w (AtTo (seenA cfR nm (sameR q) isDir l) w) :=
  at14_any f nm cfR v l q w h hs hb fun d W g => (conflictT_any nm d.r d.n W (hv.keep g)).mono fun _ _ h => ⟨_, h.1, h.2⟩
theorem sec_one (x : SeenI × Value) (hx : x.2.oneCell' = true) : ∀ u ∈ flat sec [x], u.oneCell' = true := fun u hu => by
  simp [flat, sec] at hu
  rcases hu with rfl | rfl | rfl | rfl | rfl
  · rfl
  · rfl
  · rfl
  · rfl
  · exact hx
theorem Sl.oneSec (w : World) (T : TypeId) (x : SeenI × Value) : Sl (w.alloc (.cells #[.string (bs x.1.n), .bool x.1.dir, .bool x.1.con, .string (bs x.1.g.s), x.2] T)) 5 (.slice (some ⟨w.heap.size, 0, none⟩) 1 1) 1 (flat sec [x]) := by
  refine ⟨rfl, _, 1, rfl, Nat.le_refl _, by decide, .inr ⟨_, 0, rfl, by simp, fun j hj => ?_⟩⟩
  have hB := Blk.alloc w T #[.string (bs x.1.n), .bool x.1.dir, .bool x.1.con, .string (bs x.1.g.s), x.2]
  rw [Nat.zero_add]
  have hj5 : j < 5 := by omega
  have hjs : (#[Value.string (bs x.1.n), .bool x.1.dir, .bool x.1.con, .string (bs x.1.g.s), x.2] : Array Value)[j]? = (flat sec [x])[j]? := by
    simp [flat, sec]
  obtain ⟨u, hu⟩ : ∃ u, (flat sec [x])[j]? = some u := ⟨_, List.getElem?_eq_getElem (by rw [flat_len sec sec_len]; simpa using hj5)⟩
  rw [hu] at hjs ⊢
  exact hB.cell j hjs
theorem dir_beq (s : List UInt8) : ((bs s).toList == [47]) = isDir s := by rw [bs_toList]; rfl
/-- The document's list so far. -/
structure RatI (w1 : World) (cf : List UInt8 → DotI → List UInt8) (nm : List UInt8) (P : List (GrpI × Value)) (D F : List (GrpI × Value)) (u : Value) (W : World) : Prop where
  row : Row W 5 u (seesD nm D ++ seesF cf nm D.length F).length (flat sec (seesD nm D ++ seesF cf nm D.length F))
  own : ∀ g, u.ownBlock = some g → w1.heap.size ≤ g
  d : ∀ x ∈ D, x ∈ P
  f : ∀ x ∈ F, x ∈ P
  frm : Frm (fun _ => False) w1 W
theorem RatI.start (w1 : World) (cf : List UInt8 → DotI → List UInt8) (nm : List UInt8) (P : List (GrpI × Value)) : RatI w1 cf nm P [] [] (.slice none 0 0) w1 := ⟨Row.nil_ _ _, (fun g h => by cases h), (fun x h => by cases h), (fun x h => by cases h), Frm.refl _ _⟩
/-- One more, in a world that has grown. -/
theorem RatI.add {w1 W Wb : World} {cf : List UInt8 → DotI → List UInt8} {nm : List UInt8} {P D F D' F' : List (GrpI × Value)} {u : Value} {y : SeenI × Value} (h : RatI w1 cf nm P D F u W) (g : Frm (fun _ => False) W Wb) (hy : y.2.oneCell' = true)
    (hF : seesD nm D' ++ seesF cf nm D'.length F' = (seesD nm D ++ seesF cf nm D.length F) ++ [y]) (hd : ∀ x ∈ D', x ∈ P) (hf : ∀ x ∈ F', x ∈ P) (hl : (seesD nm D ++ seesF cf nm D.length F).length ≤ 100000) :
    ∃ v' W', (Builtin.append_ #[49, 49] 49 #[u, .slice (some ⟨Wb.heap.size, 0, none⟩) 1 1]).run Tryd.prog (Wb.alloc (.cells #[.string (bs y.1.n), .bool y.1.dir, .bool y.1.con, .string (bs y.1.g.s), y.2] 54)) = .ok v' W' ∧ RatI w1 cf nm P D' F' v' W' := by
  have ga : Frm (fun _ => False) W (Wb.alloc (.cells #[.string (bs y.1.n), .bool y.1.dir, .bool y.1.con, .string (bs y.1.g.s), y.2] 54)) := g.alloc _
  obtain ⟨v', W', h1, h2, h3, h4⟩ := append_rseen _ u _ _ [y] (Row.keep h.row ga fun _ _ h => h) (Sl.oneSec Wb 54 y) (sec_one y hy) (by simp at hl ⊢; omega)
  refine ⟨v', W', h1, ⟨by rw [hF]; exact h2, fun g hg => ?_, hd, hf, ?_⟩⟩
  · rcases h4 g hg with e | e
    · exact h.own g e
    · have := h.frm.size
      have := ga.size
      omega
  · exact (h.frm.trans ga).next (frm_grownX h3) fun k hk e => by have := h.own k e; omega
end Go.Proofs.YtiokabhidjafeaaDoor
end
section
namespace Go.Proofs.YtiokabhidjafeaaDoor
open Go.RowKit Go.Shelf

theorem Row.sl2 {w : World} {size n : Nat} {v : Value} {xs : List Value} (h : Row w size v n xs) : Sl w size v n xs := Sl.ofRow h
theorem RatI.slice {w1 W : World} {cf : List UInt8 → DotI → List UInt8} {nm : List UInt8} {P D F : List (GrpI × Value)} {u : Value} (h : RatI w1 cf nm P D F u W) : ∃ a n c, u = .slice a n c ∧ D.length + F.length = n := by
  obtain ⟨a, c, e, _, _⟩ := Row.slice h.row
  exact ⟨a, _, c, e, by rw [List.length_append, seesF_len]; simp [seesD]⟩
end Go.Proofs.YtiokabhidjafeaaDoor
end
