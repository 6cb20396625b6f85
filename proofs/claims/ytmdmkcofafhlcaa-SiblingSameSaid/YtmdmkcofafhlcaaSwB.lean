/- The document's registers as they lie: what is appended to their siblings, loaded, stored; slices of dots of the call's own. No condition. -/
import Derived.Test.YtmdmkcofafhlcaaSibY
import Derived.Deep.MidRow
section
namespace Go.Proofs.Ytmdmkcofafhlcaa
open Go.RowKit

/-- A slice of dots of the call's own. -/
def OwnD (w : World) (v : Value) (l : List DotI) : Prop := Row w 2 v l.length (flat dotc l)
theorem OwnD.sl {w : World} {v : Value} {l : List DotI} (h : OwnD w v l) : DL w v l := Sl.ofRow h
theorem OwnD.keep {X : Nat → Prop} {w w' : World} {v : Value} {l : List DotI} (h : OwnD w v l) (hf : Frm X w w') (hn : ∀ g, v.ownBlock = some g → ¬ X g) : OwnD w' v l := Row.keep h hf hn
theorem OwnD.nil_ (w : World) : OwnD w (.slice none 0 0) [] := Row.nil_ w 2
theorem Sl.one (w : World) (T : TypeId) (x : SibI) : SL (w.alloc (.cells #[.int .u8 x.r, .int .u32 x.n, .string (bs x.s)] T)) (.slice (some ⟨w.heap.size, 0, none⟩) 1 1) [x] :=
  Sl.built sibc sibc_len w T x #[.int .u8 x.r, .int .u32 x.n, .string (bs x.s)] rfl
/-- A register, whose siblings are of the call's own, in a block of its own. -/
structure FillT (T : TypeId) (w0 : World) (B : Nat) (f : Nat → Nat) (l : List SibI) (v : Value) (W : World) : Prop where
  blk : Blk W B T (rgc f v)
  own : OwnL W v l
  out : ∀ g, v.ownBlock = some g → w0.heap.size ≤ g ∧ g ≠ B
  frm : Frm (fun _ => False) w0 W
  lo : w0.heap.size ≤ B
theorem FillT.keep {T : TypeId} {w0 W W' : World} {B : Nat} {f : Nat → Nat} {l : List SibI} {v : Value} (h : FillT T w0 B f l v W) (g : Frm (fun _ => False) W W') : FillT T w0 B f l v W' := ⟨h.blk.keep g (fun h => h), h.own.keep g (fun _ _ h => h), h.out, h.frm.trans g, h.lo⟩
section
variable {ops : Array Oper} {Q : Exit → Act → World → Prop} {r m : Nat} {a : Act} {w W : World}
end
end Go.Proofs.Ytmdmkcofafhlcaa
end
section
namespace Go.Proofs.Ytmdmkcofafhlcaa
open Go.RowKit

/-- Cells that may be written over. -/
def SpW (w : World) (v : Value) (n : Nat) : Prop := n = 0 ∨ ∃ g cap, v = .slice (some ⟨g, 0, none⟩) n cap ∧ n ≤ cap ∧ ∀ j, j < n * 3 → (w.cell? ⟨g, j, none⟩).isSome = true ∧ w.frozen? ⟨g, j, none⟩ = false
theorem SpW.set {w : World} {v : Value} {n : Nat} (h : SpW w v n) (b o : Nat) (vs : List Value) (hin : ∀ j, j < vs.length → (w.cell? ⟨b, o + j, none⟩).isSome = true) : SpW (w.setCells b o vs) v n := by
  rcases h with h | ⟨g, cap, e, h1, h2⟩
  · exact .inl h
  · refine .inr ⟨g, cap, e, h1, fun j hj => ⟨?_, by rw [World.frozen?_setCells]; exact (h2 j hj).2⟩⟩
    by_cases hi : g = b ∧ o ≤ j ∧ j < o + vs.length
    · obtain ⟨rfl, h3, h4⟩ := hi
      have := World.cell?_setCells_in g vs o w hin (j - o) (by omega)
      rw [show o + (j - o) = j from by omega] at this
      rw [this]; rfl
    · rw [World.cell?_setCells_out b vs o w ⟨g, j, none⟩ (fun hb _ => by
        have hb : g = b := hb
        show j < o ∨ o + vs.length ≤ j
        omega)]
      exact (h2 j hj).1
theorem Frm.setCells {X : Nat → Prop} {w : World} (b : Nat) (hX : b < w.heap.size → X b) : ∀ (vs : List Value) (o : Nat) (w' : World), Frm X w w' → Frm X w (w'.setCells b o vs) := by
  intro vs
  induction vs with
  | nil => intro o w' h; exact h
  | cons x xs ih => intro o w' h; exact ih (o + 1) _ (h.setCell (p := ⟨b, o, none⟩) hX x)

end Go.Proofs.Ytmdmkcofafhlcaa
end
