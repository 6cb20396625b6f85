/- For the examples: what the calls answer, and the ends of their regions. -/
import Derived.Test.YtmdmkcofafhlcaaSibX
import Derived.Test.YtmdmkcofafhlcaaLate
import Derived.Test.YtmdmkcofafhlcaaSibE
import Derived.Test.YtmdmkcofafhlcaaSibF
import Derived.Test.YtmdmkcofafhlcaaSibG
import Derived.Test.YtmdmkcofafhlcaaSibU
import Derived.Lib.AppendZeros
namespace Go.Proofs.Ytmdmkcofafhlcaa
open Go.RowKit

/-- The first numbers of a context, the others being 0. -/
def fC (a b c : Nat) : Nat → Nat := fun k => if k = 0 then a else if k = 1 then b else if k = 2 then c else 0
theorem DL.one (w : World) (x : DotI) : DL (w.alloc (.cells #[.int .u8 x.r, .int .u32 x.n] 27)) (.slice (some ⟨w.heap.size, 0, none⟩) 1 1) [x] :=
  Sl.ofRow (Row.made w 27 2 1 1 (dotc x) (dotc x).toArray rfl (Nat.le_refl _) (by decide) rfl rfl)

theorem Hid.grow {P : World → Prop} {w w' : World} (H : Hid (∀ W, Frm (fun _ => False) w W → P W)) (g : Frm (fun _ => False) w w') : Hid (∀ W, Frm (fun _ => False) w' W → P W) := Lib.hid fun W g' => H.out W (g.trans g')

theorem SL.nil_of {W W' : World} {v : Value} (h : SL W v []) : SL W' v [] := by
  obtain ⟨h1, a, cap, rfl, h2, h3, _⟩ := h
  exact ⟨h1, a, cap, rfl, h2, h3, .inl rfl⟩

section
variable {ops : Array Oper} {Q : Exit → Act → World → Prop} {r : Nat} {a : Act} {w W : World}
end
theorem SL.two (w : World) (x y : SibI) : SL (w.alloc (.cells #[.int .u8 x.r, .int .u32 x.n, .string (bs x.s), .int .u8 y.r, .int .u32 y.n, .string (bs y.s)] 76)) (.slice (some ⟨w.heap.size, 0, none⟩) 2 2) [x, y] :=
  OwnL.sl (Row.made w 76 3 2 2 (flat sibc [x, y]) (flat sibc [x, y]).toArray rfl (Nat.le_refl _) (by decide) rfl rfl)
section
variable {ops : Array Oper} {Q : Exit → Act → World → Prop} {r m : Nat} {a : Act} {w W : World}
theorem wpTail.val {o : Oper} {d : Tmp} {v : Value} (hi : ops[r]? = some o) (hg : o.guard = none) (hd : o.dst = some d) (h : (execOp a.eval o).run Try.prog W = .ok (.value v) W) (hK : wpTail Try.prog ops Q (r + 1) m (a.put (some d) v) W) : wpTail Try.prog ops Q r (m + 1) a W := by
  refine wpTail.cons hi hg fun K hK' => ?_
  unfold Oper.wp
  rw [h]
  refine hK' _ _ ?_
  rw [hd]
  exact hK
/-- Siblings are appended. -/
theorem wpTail.append {o : Oper} {d : Tmp} {x y : Operand} {l ms : List SibI} {v u : Value} (hi : ops[r]? = some o) (hg : o.guard = none) (hd : o.dst = some d)
    (ho : o.op = .call ⟨.builtin .append, #[x, y], #[37, 37]⟩) (ht : o.type = 37) (hx : a.eval x = v) (hy : a.eval y = u) (h : OwnL W v l) (hs : SL W u ms) (hb : l.length + ms.length ≤ 1000000)
    (hK : ∀ v' W', OwnL W' v' (l ++ ms) → W.grownBy W' v.ownBlock → (∀ g, v'.ownBlock = some g → v.ownBlock = some g ∨ W.heap.size ≤ g) → wpTail Try.prog ops Q (r + 1) m (a.put (some d) v') W') : wpTail Try.prog ops Q r (m + 1) a W := by
  obtain ⟨v', W', hrun, h1, h2, h3⟩ := append_sibs W v u l ms h hs hb
  refine wpTail.cons hi hg fun K hK' => ?_
  refine Lib.wp_append_run W x y _ _ ho v u hx hy v' W' (by rw [ht]; exact hrun) ?_
  rw [hd]
  exact hK' _ _ (hK v' W' h1 h2 h3)
end
def fullL (k : Nat) : List SibI := (List.range k).map fun i => mkSib 0 (i + 1) [118]
/-- One more is appended to the register that fills. -/
structure Fill (w0 : World) (B k : Nat) (v : Value) (W : World) : Prop where
  blk : Blk W B 39 (rgc (fC 8 0 0) v)
  own : OwnL W v (fullL k)
  out : ∀ g, v.ownBlock = some g → w0.heap.size ≤ g ∧ g ≠ B
  frm : Frm (fun _ => False) w0 W
  lo : w0.heap.size ≤ B
theorem Fill.keep {w0 W W' : World} {B k : Nat} {v : Value} (h : Fill w0 B k v W) (g : Frm (fun _ => False) W W') : Fill w0 B k v W' := ⟨h.blk.keep g (fun h => h), h.own.keep g (fun _ _ h => h), h.out, h.frm.trans g, h.lo⟩
def d8 : DotI := ⟨0, 8, by decide, by decide⟩
end Go.Proofs.Ytmdmkcofafhlcaa

