/- How dots are compared, and found among others; what wants a dot. No condition. -/
import Derived.Test.YtiokabhidjafeaaDoorCanonR
import Derived.Test.YtiokabhidjafeaaDoorCanonT
import Derived.Deep.RegionHeld
import Derived.Deep.RegionWith
import Derived.Deep.DeepCutAuto
import Derived.Deep.RegionHeld3
import Derived.Deep.QuietTactic
namespace Go.Proofs.YtiokabhidjafeaaDoor
open Go.RowKit

/-- A register, out of a block that holds it. -/
theorem load_reg {w : World} {b : Nat} {f : Nat → Nat} {v : Value} (h : Blk w b 27 (rgc f v)) : (Instr.loadAt 27 (.pointer (some ⟨b, 0, none⟩))).run Tryd.prog w = .ok (rg f v) w :=
  run_loadAt_mid w b 0 27 (rgc f v).toList _ (fun j u hu => by rw [Nat.zero_add]; exact h.cell j (by rw [← Array.getElem?_toList]; exact hu)) Tryd.underlying27 rfl (by show _ = some 9; kernel_rfl)
/-- Its context. -/
theorem load_ctx {w : World} {b : Nat} {f : Nat → Nat} {v : Value} (h : Blk w b 27 (rgc f v)) : (Instr.loadAt 24 (.pointer (some ⟨b, 0, none⟩))).run Tryd.prog w = .ok (.agg (vv f)) w :=
  run_loadAt_mid w b 0 24 (vv f).toList _ (fun j u hu => by
    have hj : j < 8 := by
      rcases Nat.lt_or_ge j 8 with h | h
      · exact h
      · rw [List.getElem?_eq_none (by simp; omega)] at hu; cases hu
    rw [Array.getElem?_toList] at hu
    rw [Nat.zero_add]
    refine h.cell j (?_ : (rgc f v)[j]? = some u)
    rcases lt8 hj with rfl | rfl | rfl | rfl | rfl | rfl | rfl | rfl <;> exact hu) Tryd.underlying24 rfl (by show _ = some 8; kernel_rfl)
/-- A dot. -/
structure DotI where
  r : Nat
  n : Nat
  hr : r < 256
  hn : n < 4294967296
instance : Inhabited DotI := ⟨⟨0, 0, by decide, by decide⟩⟩
theorem DotI.ext' {x y : DotI} (h1 : x.r = y.r) (h2 : x.n = y.n) : x = y := by
  cases x; cases y; simp only at h1 h2; subst h1 h2; rfl
instance : DecidableEq DotI := fun x y =>
  if h : x.r = y.r ∧ x.n = y.n then isTrue (DotI.ext' h.1 h.2) else isFalse fun e => h (by subst e; exact ⟨rfl, rfl⟩)
/-- A sibling's dot. -/
def SibI.d (x : SibI) : DotI := ⟨x.r, x.n, x.hr, x.hn⟩
def dotc (x : DotI) : List Value := [.int .u8 x.r, .int .u32 x.n]
theorem dotc_len (x : DotI) : (dotc x).length = 2 := rfl
theorem dotc_one (x : DotI) : ∀ u ∈ dotc x, u.oneCell' = true := fun u hu => by
  simp [dotc] at hu
  rcases hu with rfl | rfl <;> rfl
/-- A slice of dots that is only read. -/
def DL (w : World) (v : Value) (l : List DotI) : Prop := Sl w 2 v l.length (flat dotc l)
theorem DL.keepF {w w' : World} {v : Value} {l : List DotI} (h : DL w v l) (hf : Frm (fun _ => False) w w') : DL w' v l := Sl.keepF h hf
theorem DL.slice {w : World} {v : Value} {l : List DotI} (h : DL w v l) : ∃ a cap, v = .slice a l.length cap ∧ l.length ≤ cap ∧ cap ≤ maxLen := Sl.slice h
theorem DL.load {w : World} {a : Option Addr} {cap : Nat} {l : List DotI} (h : DL w (.slice a l.length cap) l) (k : Nat) (hk : k < l.length) :
    ∃ g off, a = some ⟨g, off, none⟩ ∧ w.cell? ⟨g, off + k * 2, none⟩ = some (.int .u8 l[k].r) ∧ w.cell? ⟨g, off + k * 2 + 1, none⟩ = some (.int .u32 l[k].n) := by
  obtain ⟨g, off, rfl, _, hc⟩ := Sl.elem dotc dotc_len h k hk (by omega)
  exact ⟨g, off, rfl, hc 0 (by omega), by rw [Nat.add_assoc]; exact hc 1 (by omega)⟩

end Go.Proofs.YtiokabhidjafeaaDoor

