/- The statement SiblingJoins, called. Of any two registers. No condition. -/
import Derived.Test.YtmdmkcofafhlcaaSwB
import Derived.Test.YtmdmkcofafhlcaaSwN
namespace Go.Proofs.Ytmdmkcofafhlcaa
open Go.RowKit

theorem OwnL.notRgc {T : TypeId} {W : World} {v : Value} {x : SibI} {l : List SibI} {V : Nat} {f : Nat → Nat} {u : Value} (h : OwnL W v (x :: l)) (hb : Blk W V T (rgc f u)) : ∀ g, v.ownBlock = some g → ¬ g = V := by
  intro g hg e
  subst e
  rcases h.2 with ⟨rfl, _⟩ | ⟨g', cap, rfl, _, _, _, h4, _⟩
  · cases hg
  · cases hg
    have c1 := h4 0 (by simp)
    rw [hb.cell 0 rfl] at c1
    simp [flat, sibc] at c1
theorem OwnL.past {T : TypeId} {W W' : World} {v : Value} {l : List SibI} {V : Nat} (o : OwnL W v l) (b : Blk W V T rz) (f : Frm (fun q => q = V) W W') : SL W' v l := by
  cases l with
  | nil => exact o.sl.nil_of
  | cons x l => exact o.sl.keep f fun g hg => o.notRgc (f := fun _ => 0) (u := .slice none 0 0) b g (o.blkOf g hg)
theorem Wrow.ne {v : Value} {T : TypeId} {W : World} {l : List SibI} {V : Nat} (o : OwnL W v l) (h : SL W v l) (b : Blk W V T rz) {W' : World} (f : Frm (fun q => q = V) W W') : SL W' v l := by
  have _ := h
  exact o.past b f
section
variable {ops : Array Oper} {Q : Exit → Act → World → Prop} {r : Nat} {a : Act} {w W : World}
end
/-- The registers that came in, and their copies. -/
structure Jin (N M : Nat) (f g : Nat → Nat) (v1 v2 : Value) (l m : List SibI) (W : World) : Prop where
  x : Blk W N 39 (rgc f v1)
  xs : SL W v1 l
  y : Blk W M 39 (rgc g v2)
  ys : SL W v2 m
theorem Jin.keep {N M : Nat} {f g : Nat → Nat} {v1 v2 : Value} {l m : List SibI} {W W' : World} (h : Jin N M f g v1 v2 l m W) (k : Frm (fun _ => False) W W') : Jin N M f g v1 v2 l m W' :=
  ⟨h.x.keep k (fun h => h), h.xs.keepF k, h.y.keep k (fun h => h), h.ys.keepF k⟩
structure Jst (N M B5 B6 : Nat) (f g : Nat → Nat) (v1 v2 v5 v6 : Value) (l m : List SibI) (W : World) : Prop where
  x : Blk W N 39 (rgc f v1)
  xs : SL W v1 l
  y : Blk W M 39 (rgc g v2)
  ys : SL W v2 m
  o : Blk W B5 39 (rgc f v5)
  os : SL W v5 l
  p : Blk W B6 39 (rgc g v6)
  ps : SL W v6 m
theorem Jst.keep {N M B5 B6 : Nat} {f g : Nat → Nat} {v1 v2 v5 v6 : Value} {l m : List SibI} {W W' : World} (h : Jst N M B5 B6 f g v1 v2 v5 v6 l m W) (k : Frm (fun _ => False) W W') : Jst N M B5 B6 f g v1 v2 v5 v6 l m W' :=
  ⟨h.x.keep k (fun h => h), h.xs.keepF k, h.y.keep k (fun h => h), h.ys.keepF k, h.o.keep k (fun h => h), h.os.keepF k, h.p.keep k (fun h => h), h.ps.keepF k⟩
structure Jst2 (N M B5 B6 B7 B9 B11 : Nat) (f g f7 : Nat → Nat) (v1 v2 v5 v6 v7 v9 v11 : Value) (l m l7 L11 : List SibI) (W : World) : Prop where
  j : Jst N M B5 B6 f g v1 v2 v5 v6 l m W
  a : Blk W B7 39 (rgc f7 v7)
  asl : OwnL W v7 l7
  b : Blk W B9 47 (rgc f7 v9)
  bs : SL W v9 l7
  c : Blk W B11 39 (rgc (fun _ => 0) v11)
  csl : OwnL W v11 L11
theorem Jst2.keep {N M B5 B6 B7 B9 B11 : Nat} {f g f7 : Nat → Nat} {v1 v2 v5 v6 v7 v9 v11 : Value} {l m l7 L11 : List SibI} {W W' : World} (h : Jst2 N M B5 B6 B7 B9 B11 f g f7 v1 v2 v5 v6 v7 v9 v11 l m l7 L11 W) (k : Frm (fun _ => False) W W') : Jst2 N M B5 B6 B7 B9 B11 f g f7 v1 v2 v5 v6 v7 v9 v11 l m l7 L11 W' :=
  ⟨h.j.keep k, h.a.keep k (fun h => h), h.asl.keep k (fun _ _ h => h), h.b.keep k (fun h => h), h.bs.keepF k, h.c.keep k (fun h => h), h.csl.keep k (fun _ _ h => h)⟩
theorem IL.cells {w : World} {a : Option Addr} {cap : Nat} {l : List SibI} (h : IL w (.slice a l.length cap) l) (k : Nat) (hk : k < l.length) :
    ∃ g off, a = some ⟨g, off, none⟩ ∧ w.cell? ⟨g, off + k * 3, none⟩ = some (.int .u8 l[k].r) ∧ w.cell? ⟨g, off + k * 3 + 1, none⟩ = some (.int .u32 l[k].n) ∧ w.cell? ⟨g, off + k * 3 + 2, none⟩ = some (.int .i64 (l[k].s.length : Int)) := by
  obtain ⟨g, off, rfl, _, hc⟩ := Sl.elem intc intc_len h k hk (by omega)
  exact ⟨g, off, rfl, hc 0 (by omega), by rw [Nat.add_assoc]; exact hc 1 (by omega), by rw [Nat.add_assoc]; exact hc 2 (by omega)⟩
end Go.Proofs.Ytmdmkcofafhlcaa

