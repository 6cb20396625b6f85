/- What at answers: what is seen at a name. No condition. -/
import Derived.Test.YtiokabhidjafeaaDoorRkV
import Derived.Test.YtiokabhidjafeaaDoorRkN
import Derived.BigQuiet
import Derived.Deep.RegionLaw
import Derived.Test.YtiokabhidjafeaaDoorFrm
section
namespace Go.Proofs.YtiokabhidjafeaaDoor
open Go.RowKit

set_option maxRecDepth 100000 in
set_option maxHeartbeats 2000000 in
theorem at14_any (f : Nat → Nat) (nm : List UInt8) (cf : List UInt8 → DotI → List UInt8) (v : Value) (l : List SibI) (q : Bool) (w : World) (h : SL w v l) (hs : ∀ x ∈ l, x.s.length ≤ 200) (hb : l.length ≤ 1000)
    (hcf : ∀ (d : DotI) (W : World), Frm (fun _ => False) w W → Calls Tryd.prog 38 #[.string (bs nm), .agg #[.int .u8 (d.r : Int), .int .u32 (d.n : Int)]] W fun e w' => ∃ er, e = .returned (.tuple #[.string (bs (cf nm d)), er]) ∧ Frm (fun _ => False) W w') :
    Calls Tryd.prog 14 #[rg f v, .string (bs nm), .bool q] w (AtTo (seenA cf nm (sameR q) isDir l) w) := by
  obtain ⟨a0, c0, rfl, _, _⟩ := h.slice
  have f0 : Frm (fun _ => False) w (w.alloc (.cells (rgc f (.slice a0 l.length c0)) 27)) := (Frm.refl _ w).alloc _
  have HF := Lib.hid f0
  have hmf : ∀ (fn : Fn) (first cap : Array Value) (w : World), (Instr.makeFunc fn first cap).run Tryd.prog w = .ok (.func fn first cap) w := fun _ _ _ _ => rfl
  cases q with
  | true =>
    have HJ := Lib.hid (at_any f nm cf isDir (sameR true) (.slice a0 l.length c0) (.func (.func 29) #[] #[]) (.func (.func 26) #[] #[]) l (w.alloc (.cells (rgc f (.slice a0 l.length c0)) 27)) (h.keepF f0) (dir_to _) (same_loose _) hs hb (fun d W g => hcf d W (f0.trans g)))
    clear h hs hcf f0
    go_enter Tryd.func14, Tryd.ntmps14
    go_wp2_with fail
    refine HJ.out.mono ?_
    rintro e w1 ⟨u, P, rfl, h1, h2, h3⟩
    have H1 := Lib.hid (And.intro h1 (And.intro h2 h3))
    obtain ⟨a8, c8, rfl, _, _⟩ := Row.slice h1.row
    clear h1 h2 h3
    go_wp2_with fail
    go_ret
    have hs0 := HF.out.size
    exact ⟨_, P, rfl, ⟨H1.out.1.row, H1.out.1.dots, H1.out.1.apart, H1.out.1.apu, fun g e => by have := H1.out.1.lo g e; omega, fun i hi g e => by have := H1.out.1.lod i hi g e; omega⟩, H1.out.2.1, HF.out.trans H1.out.2.2⟩
  | false =>
    have HJ := Lib.hid (at_any f nm cf isDir (sameR false) (.slice a0 l.length c0) (.func (.func 29) #[] #[]) (.func (.func 25) #[] #[]) l (w.alloc (.cells (rgc f (.slice a0 l.length c0)) 27)) (h.keepF f0) (dir_to _) (same_just _) hs hb (fun d W g => hcf d W (f0.trans g)))
    clear h hs hcf f0
    go_enter Tryd.func14, Tryd.ntmps14
    go_wp2_with fail
    refine HJ.out.mono ?_
    rintro e w1 ⟨u, P, rfl, h1, h2, h3⟩
    have H1 := Lib.hid (And.intro h1 (And.intro h2 h3))
    obtain ⟨a8, c8, rfl, _, _⟩ := Row.slice h1.row
    clear h1 h2 h3
    go_wp2_with fail
    go_ret
    have hs0 := HF.out.size
    exact ⟨_, P, rfl, ⟨H1.out.1.row, H1.out.1.dots, H1.out.1.apart, H1.out.1.apu, fun g e => by have := H1.out.1.lo g e; omega, fun i hi g e => by have := H1.out.1.lod i hi g e; omega⟩, H1.out.2.1, HF.out.trans H1.out.2.2⟩
end Go.Proofs.YtiokabhidjafeaaDoor
end
section
namespace Go.Proofs.YtiokabhidjafeaaDoor
open Go.RowKit Go.Shelf

section
variable {P : Program} {ops : Array Oper} {Q : Exit → Act → World → Prop}
end
theorem frm_grownX {w w' : World} {row : Option Nat} (h : w.grownBy w' row) : Frm (fun k => row = some k) w w' :=
  ⟨h.os, h.tape, h.output, h.size, fun k hk hn => h.block k hk fun e => hn e.symm⟩
end Go.Proofs.YtiokabhidjafeaaDoor
end
section
namespace Go.Proofs.YtiokabhidjafeaaDoor
open Go.RowKit

theorem Tryd.info54 : (Tryd.prog.info? 54).map (fun i => (i.zero, i.size, i.bytes)) = some (some (.agg #[.string ⟨#[]⟩, .bool false, .bool false, .string ⟨#[]⟩, .slice none 0 0]), 5, 64) := by kernel_rfl
theorem append_rseen (w : World) (v x : Value) (P Q : List (SeenI × Value)) (h : Row w 5 v P.length (flat sec P)) (hs : Sl w 5 x Q.length (flat sec Q)) (h1 : ∀ u ∈ flat sec Q, u.oneCell' = true) (hb : P.length + Q.length ≤ 1000000) :
    ∃ v' w', (Builtin.append_ #[49, 49] 49 #[v, x]).run Tryd.prog w = .ok v' w' ∧ Row w' 5 v' (P ++ Q).length (flat sec (P ++ Q)) ∧ w.grownBy w' v.ownBlock ∧ (∀ g, v'.ownBlock = some g → v.ownBlock = some g ∨ w.heap.size ≤ g) := by
  obtain ⟨i0, hi, hz0, hz1, hz2⟩ := info_parts Tryd.info54
  obtain ⟨v', w', h1, h2, h3, h4⟩ := run_append_row w 49 49 49 54 i0 (.agg #[.string ⟨#[]⟩, .bool false, .bool false, .string ⟨#[]⟩, .slice none 0 0]) 5 64 Tryd.underlying49 hi hz0 hz1 hz2 rfl h x Q.length (flat sec Q)
    (Sl.src hs Tryd.underlying49 h1) (by unfold maxLen; omega) (by omega)
  exact ⟨v', w', h1, by rw [List.length_append, flat_append]; exact h2, h3, h4⟩
end Go.Proofs.YtiokabhidjafeaaDoor
end
section
namespace Go.Proofs.YtiokabhidjafeaaDoor

/-- May a name have this byte? -/
def okc (c : UInt8) : Bool := decide (33 ≤ c.toNat ∧ c.toNat ≤ 125 ∧ c.toNat ≠ 47)
/-- Is a text a name? If not, why. -/
def chk (s : List UInt8) : Nat := if s = [] then 4 else if s.all okc = true then (if 8 < s.length then 3 else 0) else 4
theorem chk_ok {s : List UInt8} : chk s = 0 ↔ s ≠ [] ∧ s.all okc = true ∧ s.length ≤ 8 := by
  unfold chk
  by_cases h1 : s = []
  · simp [h1]
  · rw [if_neg h1]
    by_cases h2 : s.all okc = true
    · rw [if_pos h2]
      by_cases h3 : 8 < s.length
      · rw [if_pos h3]
        exact ⟨fun h => by omega, fun h => by omega⟩
      · rw [if_neg h3]
        exact ⟨fun _ => ⟨h1, h2, by omega⟩, fun _ => rfl⟩
    · rw [if_neg h2]
      exact ⟨fun h => by omega, fun h => absurd h.2.1 h2⟩
theorem okc_tilde : okc 126 = false := by decide
theorem chk_not {s : List UInt8} (h : chk s = 0) {c : UInt8} (hc : okc c = false) : c ∉ s := fun hm => by
  have := List.all_eq_true.1 (chk_ok.1 h).2.1 c hm
  rw [hc] at this; cases this

/-- A text, cut at a byte. -/
def cut (c : UInt8) : List UInt8 → List (List UInt8)
  | [] => [[]]
  | x :: r => if x = c then [] :: cut c r else (x :: (cut c r).headD []) :: (cut c r).tail
theorem cut_free {c : UInt8} : ∀ {s : List UInt8}, c ∉ s → cut c s = [s]
  | [], _ => rfl
  | x :: r, h => by
    have h1 : x ≠ c := fun e => h (by simp [e])
    have h2 : c ∉ r := fun e => h (by simp [e])
    rw [cut, if_neg h1, cut_free h2]; rfl
theorem cut_app {c : UInt8} (r : List UInt8) : ∀ {s : List UInt8}, c ∉ s → cut c (s ++ c :: r) = s :: cut c r
  | [], _ => by rw [List.nil_append, cut, if_pos rfl]
  | x :: s, h => by
    have h1 : x ≠ c := fun e => h (by simp [e])
    have h2 : c ∉ s := fun e => h (by simp [e])
    rw [List.cons_append, cut, if_neg h1, cut_app r h2]; rfl
/-- What is wrong with names, the first of which is the i-th one. -/
def walk : Nat → List (List UInt8) → Nat
  | _, [] => 0
  | i, s :: l => if chk s ≠ 0 then chk s else if 4 < i then 3 else walk (i + 1) l
/-- At most four names. -/
def good (l : List (List UInt8)) : Prop := (∀ s ∈ l, chk s = 0) ∧ l.length ≤ 4
/-- The text of names. -/
def txt (l : List (List UInt8)) : List UInt8 := if l = [] then [47] else l.flatMap (47 :: ·)
/-- The text of names, or what is wrong. -/
def text (l : List (List UInt8)) : List UInt8 × Nat := if ∃ s ∈ l, chk s ≠ 0 then ([], 4) else if 4 < l.length then ([], 3) else (txt l, 0)
end Go.Proofs.YtiokabhidjafeaaDoor
end
