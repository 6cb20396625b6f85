/- A law's row, whatever its parameters: if the call answers true and nothing that lay has turned, the arguments read as they did. Of no program. No condition. -/
import Derived.Test.YtddjkbpgaenpgaaGreatRows
import Derived.WalkKit
import Derived.ProofKit
import Derived.OpenShut
import Derived.ShutString
import Derived.Carry
import Derived.Deep.Slices
import Derived.Deep.Fields
import Derived.Test.YtddjkbpgaenpgaaGreatDvD
import Derived.Test.YtddjkbpgaenpgaaGreatDvJ
import Derived.Laws.MakeOwn
import Derived.Test.YtddjkbpgaenpgaaGreatDvR
import Derived.BigQuiet
section
namespace Go.Proofs.YtddjkbpgaenpgaaGreat
open Go.ChangeShapes Go.WideShapes Go.ChangeAt Go.RowKit

theorem trodAll_keep {H : Type} {enc : TypeId × Value → H} {P : Program} (hl : laidOutB P = true) {W W' : World} (hb : Below W.heap.size W W') :
    ∀ (ts : List TypeId) (vs : List Value) (ds : List (DataW H)) (ps : List MemPlace), ts.all (fun t => P.readableRec t && decide (t < P.types.size)) = true →
      DataW.TrodAll enc P W 0 (fun _ => true) true ts vs ds ps → (∀ x ∈ ps, x.block < W.heap.size) → DataW.TrodAll enc P W' 0 (fun b => decide (b < W.heap.size)) true ts vs ds ps := by
  intro ts
  induction ts with
  | nil => intro vs ds ps _ h _; cases vs <;> cases ds <;> exact h
  | cons t ts ih =>
    intro vs ds ps hr h hlt
    cases vs with
    | nil => exact h.elim
    | cons v vs =>
      cases ds with
      | nil => exact h.elim
      | cons d ds =>
        obtain ⟨p, q, h1, h2, rfl⟩ := h
        rw [List.all_cons, Bool.and_eq_true, Bool.and_eq_true] at hr
        exact ⟨p, q, Below.trod hl hr.1.1 (of_decide_eq_true hr.1.2) h1 hb (fun x hx => hlt x (List.mem_append_left _ hx)), ih vs ds q hr.2 h2 (fun x hx => hlt x (List.mem_append_right _ hx)), rfl⟩

theorem lawPost {H : Type} {enc : TypeId × Value → H} {P : Program} {f : Func} {s : ChangeSpec} {apart fresh handsOn : Bool} {W W' : World} {args : Array Value} {ds gs : List (DataW H)} {before : List MemPlace} {tb : TypeId}
    (hl : laidOutB P = true) (hr : f.params.toList.all (fun t => P.readableRec t && decide (t < P.types.size)) = true) (hv : s.vars = []) (hrt : f.resultTypes = #[tb]) (htb : P.underlying tb = some .bool)
    (hW : DataW.Whole enc P f.params.toList s.vars apart W args.toList ds gs before) (hfn : s.fn H (ds ++ gs) = { results := [.lit (.bool true)], args := ds }) (hb : Below W.heap.size W W') :
    s.post enc P f apart fresh handsOn false W args (.bool true) W' := by
  have hW0 := hW
  obtain ⟨p, q, h1, h2, h3, h4, h5⟩ := hW0
  refine ⟨ds, gs, before, [], p, [], hW, ?_, ?_, ?_, ?_, fun h => by cases h⟩
  · rw [hfn, hrt]
    exact trodAll_cons_mk (shut_bool htb _) trodAll_mk0
  · rw [hfn]
    refine trodAll_keep hl hb _ _ _ _ hr h1 fun x hx => ?_
    have hlt := hW.lt x (by rw [h3]; exact List.mem_append_left _ hx)
    simpa using hlt
  · rw [hfn, hv]
    exact rfl
  · exact hb.frame _
end Go.Proofs.YtddjkbpgaenpgaaGreat
end
section
namespace Go.Proofs.YtddjkbpgaenpgaaGreat
open Go.ChangeShapes Go.WideShapes Go.ChangeAt Go.RowKit Go.Deep
section
variable {H : Type} {enc : TypeId × Value → H} {P : Program} {w : World} {base : Nat} {spare : Nat → Bool} {held : Bool}
/-- Each field of each element is a cell of its own, and reads by itself. -/
theorem rowCells {t e : TypeId} {fs : Array Field} {fuel : Nat} {cs : List Value} {x : DataW H × List MemPlace} (ht : P.underlying t = some (.slice e)) (he : P.underlying e = some (.struct fs))
    (hone : oneCellFields P fs = true) (hC : P.cellsOf e = fs.size) (h : DataW.trod enc P w base spare held fuel t cs = some x) :
    cs = [.slice none 0 0] ∨ ∃ (a : Addr) (len cap : Nat), cs = [.slice (some a) len cap] ∧ len ≤ cap ∧ cap ≤ maxLen ∧
      ∀ i, i < len → ∀ (j : Nat) (f : Field), fs[j]? = some f → ∃ v y n, w.cell? (a.add (i * fs.size + j)) = some v ∧ DataW.trod enc P w base spare held n f.type [v] = some y := by
  rcases open_slice ht h with ⟨h0, _⟩ | ⟨a, len, cap, m, n, D, Pl, hcs, _, hl, hm, hmm, _, hi⟩
  · exact .inl h0
  · refine .inr ⟨a, len, cap, hcs, hl, hm, fun i hil j f hj => ?_⟩
    have him : i < m := by rw [hmm]; split <;> omega
    obtain ⟨row, hrow, htrod⟩ := hi i him
    obtain ⟨ys, n', _, _, hlen, hyl, hf⟩ := DataW.trod_struct he htrod
    obtain ⟨_, _, hcell⟩ := World.cells?_some hrow
    obtain ⟨hoff, hone'⟩ := hone_of hone j f hj
    have hjl : j < fs.size := (Array.getElem?_eq_some_iff.1 hj).1
    have hjr : j < row.length := by rw [hlen, hC]; exact hjl
    have h1 := hf j f hj
    rw [hoff, hone', List.drop_eq_getElem_cons hjr, List.take_succ_cons, List.take_zero] at h1
    have hjy : j < ys.length := by rw [hyl]; exact hjl
    rw [List.getElem?_eq_getElem hjy] at h1
    refine ⟨row[j], ys[j], n', ?_, h1⟩
    rw [← hC, ← Go.Deep.add_add, hcell j (by rw [hC]; exact hjl), List.getElem?_eq_getElem hjr]
theorem spot_of_cell {a : Addr} {v : Value} (h : w.cell? a = some v) : a.spot = none := by
  unfold World.cell? at h
  split at h
  · split at h
    · cases h
    · rename_i hs; simpa using hs
  · cases h
/-- What a row's first cell tells of its address. -/
theorem addr_of_cell {a : Addr} {v : Value} (h : w.cell? (a.add 0) = some v) : ∃ b off, a = ⟨b, off, none⟩ ∧ b < w.heap.size := by
  have h0 : a.add 0 = a := by simp [Addr.add]
  rw [h0] at h
  obtain ⟨b, off, sp⟩ := a
  have hs : sp = none := spot_of_cell h
  subst hs
  exact ⟨b, off, rfl, World.block_lt_of_cell? w _ h⟩
end
theorem listOf {α : Type} {p : Nat → α → Prop} : ∀ n, (∀ i, i < n → ∃ x, p i x) → ∃ l : List α, l.length = n ∧ ∀ i (h : i < l.length), p i l[i] := by
  intro n
  induction n with
  | zero => intro _; exact ⟨[], rfl, fun i h => by simp at h⟩
  | succ n ih =>
    intro h
    obtain ⟨l, hl, hp⟩ := ih fun i hi => h i (by omega)
    obtain ⟨x, hx⟩ := h n (by omega)
    refine ⟨l ++ [x], by simp [hl], fun i hi => ?_⟩
    by_cases hin : i < l.length
    · rw [List.getElem_append_left hin]; exact hp i hin
    · have : i = n := by simp at hi; omega
      subst this
      rw [List.getElem_append_right (by omega)]
      simpa [hl] using hx
end Go.Proofs.YtddjkbpgaenpgaaGreat
end
section
namespace Go.Proofs.YtddjkbpgaenpgaaGreat
open Go.ChangeShapes Go.WideShapes Go.ChangeAt Go.RowKit Go.Deep
/-- Texts, as cells. -/
def strs (l : List (List UInt8)) : List Value := l.map fun s => Value.string (bs s)
theorem strs_length (l : List (List UInt8)) : (strs l).length = l.length := by simp [strs]
theorem strs_append (a b : List (List UInt8)) : strs (a ++ b) = strs a ++ strs b := by simp [strs]
theorem strs_take (l : List (List UInt8)) (k : Nat) : (strs l).take k = strs (l.take k) := by simp [strs, List.map_take]
theorem strs_drop (l : List (List UInt8)) (k : Nat) : (strs l).drop k = strs (l.drop k) := by simp [strs, List.map_drop]
theorem strs_get (l : List (List UInt8)) (k : Nat) (h : k < l.length) : (strs l)[k]? = some (.string (bs l[k])) := by simp [strs, h]
theorem strs_one (l : List (List UInt8)) : ∀ u ∈ strs l, u.oneCell' = true := fun u hu => by
  obtain ⟨_, _, rfl⟩ := List.mem_map.1 hu
  rfl
/-- A slice of texts, only read. -/
def Strs (w : World) (v : Value) (l : List (List UInt8)) : Prop := Sl w 1 v l.length (strs l)
/-- A slice of texts that the call holds by itself. -/
def OwnS (w : World) (v : Value) (l : List (List UInt8)) : Prop := Row w 1 v l.length (strs l)
section
variable {w w' : World} {v : Value} {l : List (List UInt8)}
theorem OwnS.reads (h : OwnS w v l) : Strs w v l := Sl.ofRow h
theorem OwnS.keep {X : Nat → Prop} (h : OwnS w v l) (hf : Frm X w w') (hn : ∀ g, v.ownBlock = some g → ¬ X g) : OwnS w' v l := Row.keep h hf hn
theorem OwnS.nil_ (w : World) : OwnS w (.slice none 0 0) [] := Row.nil_ w 1
theorem Strs.keepF (h : Strs w v l) (hf : Frm (fun _ => False) w w') : Strs w' v l := Sl.keepF h hf
theorem Strs.slice (h : Strs w v l) : ∃ a cap, v = .slice a l.length cap ∧ l.length ≤ cap ∧ cap ≤ maxLen := Sl.slice h
theorem Strs.at {a : Option Addr} {n cap : Nat} (h : Strs w (.slice a n cap) l) (k : Nat) (hk : k < l.length) : ∃ g off, a = some ⟨g, off, none⟩ ∧ g < w.heap.size ∧ w.cell? ⟨g, off + k, none⟩ = some (.string (bs l[k])) := by
  obtain ⟨a', cap', e, _⟩ := Sl.slice h
  cases e
  obtain ⟨g, off, e1, e2, e3⟩ := Sl.at h k (by omega)
  exact ⟨g, off, e1, e2, by rw [e3, strs_get l k hk]⟩
/-- The first k of them. -/
theorem Strs.ahead {a : Option Addr} {n cap : Nat} (h : Strs w (.slice a n cap) l) (k : Nat) (hk : k ≤ n) : Strs w (.slice a k cap) (l.take k) := by
  obtain ⟨a', cap', e, hc, _⟩ := Sl.slice h
  cases e
  have h2 := Sl.take h k cap hk (by omega) (Nat.le_refl _)
  rw [Nat.mul_one, strs_take] at h2
  have e : (l.take k).length = k := by simp; omega
  unfold Strs
  rw [e]; exact h2
/-- What stands behind the first k of them. -/
theorem Strs.behind {a : Option Addr} {n cap : Nat} (h : Strs w (.slice a n cap) l) (k : Nat) (hk : k ≤ n) : Strs w (.slice (if cap = k then a else a.map (·.add k)) (n - k) (cap - k)) (l.drop k) := by
  obtain ⟨a', cap', e, hc, _⟩ := Sl.slice h
  cases e
  have h2 := Sl.drop h k hk
  rw [Nat.mul_one, strs_drop] at h2
  have e : (l.drop k).length = l.length - k := by simp
  unfold Strs
  rw [e]; exact h2
theorem Strs.none_ (w : World) : Strs w (.slice none 0 0) [] := Sl.nil_ w 1 none 0 (by decide)
end
end Go.Proofs.YtddjkbpgaenpgaaGreat
end
section
namespace Go.Proofs.YtddjkbpgaenpgaaGreat
open Go.RowKit Go.Shelf

def frc (p : Nat × List UInt8) : List Value := [.int .i64 (p.1 : Nat), .string (bs p.2)]
theorem frc_len (p : Nat × List UInt8) : (frc p).length = 2 := rfl
def FrL (w : World) (v : Value) (l : List (Nat × List UInt8)) : Prop := Sl w 2 v l.length (flat frc l)
def OwnF (w : World) (v : Value) (l : List (Nat × List UInt8)) : Prop := Row w 2 v l.length (flat frc l)
theorem FrL.slice {w : World} {v : Value} {l : List (Nat × List UInt8)} (h : FrL w v l) : ∃ a cap, v = .slice a l.length cap ∧ l.length ≤ cap ∧ cap ≤ maxLen := Sl.slice h
theorem FrL.elem {w : World} {a : Option Addr} {cap : Nat} {l : List (Nat × List UInt8)} (h : FrL w (.slice a l.length cap) l) (k : Nat) (hk : k < l.length) : ∃ g off, a = some ⟨g, off, none⟩ ∧ g < w.heap.size ∧ w.cell? ⟨g, off + k * 2, none⟩ = some (.int .i64 (l[k].1 : Nat)) ∧ w.cell? ⟨g, off + k * 2 + 1, none⟩ = some (.string (bs l[k].2)) := by
  obtain ⟨g, off, rfl, h0, hc⟩ := Sl.elem frc frc_len h k hk (by omega)
  exact ⟨g, off, rfl, h0, hc 0 (by omega), by rw [Nat.add_assoc]; exact hc 1 (by omega)⟩
/-- The document's device at block r: its texts A, its list B; where it lies is among fp. -/
structure RefC (w : World) (r : Nat) (A : List (List UInt8)) (B : List (Nat × List UInt8)) (fp : Nat → Prop) (va vb : Value) : Prop where
  blk : Blk w r 98 #[va, vb]
  firm : OwnS w va A
  list : OwnF w vb B
  fr : fp r
  fa : ∀ g, va.ownBlock = some g → fp g ∧ g ≠ r
  fb : ∀ g, vb.ownBlock = some g → fp g ∧ g ≠ r ∧ va.ownBlock ≠ some g
  lt : ∀ k, fp k → k < w.heap.size
def RefM (w : World) (r : Nat) (D : DV) (fp : Nat → Prop) : Prop := ∃ va vb, RefC w r (FRs D) (FLs D) fp va vb
section
variable {w w' : World} {r : Nat} {A : List (List UInt8)} {B : List (Nat × List UInt8)} {fp : Nat → Prop} {va vb : Value} {D : DV}
theorem RefC.keep {X : Nat → Prop} (h : RefC w r A B fp va vb) (hf : Frm X w w') (hn : ∀ k, fp k → ¬ X k) : RefC w' r A B fp va vb :=
  ⟨h.blk.keep hf (hn r h.fr), h.firm.keep hf (fun g hg => hn g (h.fa g hg).1), Row.keep h.list hf (fun g hg => hn g (h.fb g hg).1), h.fr, h.fa, h.fb, fun k hk => Nat.lt_of_lt_of_le (h.lt k hk) hf.size⟩
theorem RefM.keep {X : Nat → Prop} (h : RefM w r D fp) (hf : Frm X w w') (hn : ∀ k, fp k → ¬ X k) : RefM w' r D fp := by
  obtain ⟨va, vb, h⟩ := h
  exact ⟨va, vb, h.keep hf hn⟩
theorem RefM.keepF (h : RefM w r D fp) (hf : Frm (fun _ => False) w w') : RefM w' r D fp := h.keep hf fun _ _ h => h
theorem RefM.lt (h : RefM w r D fp) : ∀ k, fp k → k < w.heap.size := by
  obtain ⟨va, vb, h⟩ := h
  exact h.lt
end
end Go.Proofs.YtddjkbpgaenpgaaGreat
end
