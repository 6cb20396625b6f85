/- A loop over a function whose rounds are told what lies in memory behind the element. No condition. -/
import Derived.Test.YtiokabhidjafeaaDoorRkD
namespace Go.Proofs.YtiokabhidjafeaaDoor
open Go.RowKit

/-- But for new blocks, and blocks from B on that hold no cells, all lies as it lay. -/
def Tw (B : Nat) (W W' : World) : Prop := Frm (fun q => B ≤ q ∧ ∃ o : Obj, W.heap[q]? = some o ∧ o.isCells = false) W W'
theorem Tw.put {B l : Nat} {W : World} {o : Obj} (o' : Obj) (hB : B ≤ l) (h : W.heap[l]? = some o) (ho : o.isCells = false) : Tw B W (W.putObj l o') :=
  (Frm.refl _ W).grown (grownBy_putObj' W l o') (fun k _ e => by cases e; exact ⟨hB, o, h, ho⟩)
theorem Tw.old {B : Nat} {W W' : World} (h : Frm (fun _ => False) W W') : Tw B W W' := h.mono fun _ _ h => h.elim
theorem Tw.blk {B b : Nat} {W W' : World} {t : TypeId} {cs : Array Value} (g : Tw B W W') (h : Blk W b t cs) : Blk W' b t cs := h.keep g fun e => by
  obtain ⟨_, o, ho, hc⟩ := e
  rw [show W.heap[b]? = _ from h] at ho
  cases ho; cases hc
theorem Tw.row {B size n : Nat} {W W' : World} {v : Value} {xs : List Value} (g : Tw B W W') (h : Row W size v n xs) : Row W' size v n xs := Row.keep h g fun q e he => by
  obtain ⟨_, o, ho, hc⟩ := he
  have := Row.isCellsR h q o e ho
  rw [this] at hc; cases hc
theorem Tw.frm {B : Nat} {w W W' : World} (g : Tw B W W') {X : Nat → Prop} (h : Frm X w W) (hB : w.heap.size ≤ B) : Frm X w W' := h.next g fun k hk e => by have := e.1; omega
theorem heap_lt {W : World} {k : Nat} {o : Obj} (h : W.heap[k]? = some o) : k < W.heap.size := (Array.getElem?_eq_some_iff.1 h).1
theorem Frm.obj {X : Nat → Prop} {W W' : World} {k : Nat} {o : Obj} (g : Frm X W W') (h : W.heap[k]? = some o) (hn : ¬ X k) : W'.heap[k]? = some o := (g.block k (heap_lt h) hn).trans h
/-- An iterator's contract: one by one it gives elements of each of which Y tells what lies behind it, and what lay when the round ahead ended. -/
def GivesM {α : Type} (F : Fence) (n : Nat) (P : Program) (g : Nat) (lb : Array Value) (encs : α → Array Value) (Y : α → World → World → Prop) (K : Nat → Prop) (S : List α → Prop) (N : Nat) (w : World) : Prop :=
  ∀ (l : Nat) (J : List α → World → Prop) (W : World), Frm (fun _ => False) w W →
    (∀ pre x W0 W1, J pre W0 → Frm (fun _ => False) W0 W1 → Y x W0 W1 → pre.length < N → YieldAt F (n - 1) P l (encs x) W1 fun e W' => e = .returned (.bool true) ∧ J (pre ++ [x]) W' ∧ keptS K W1 W') →
    J [] W → CallsIn F n P g (#[.func (.yield l) #[] #[]] ++ lb) W fun e W' => (∃ v, e = .returned v) ∧ ∃ xs W0, S xs ∧ J xs W0 ∧ Frm (fun _ => False) W0 W'
section
variable {F : Fence} {n : Nat} {P : Program}
theorem range_gives {α : Type} {g : Operand} {ps : Array Tmp} {assign body : Code} {Q : Exit → Act → World → Prop} {a : Act} {w : World}
    (hro : F.round = none) (h1 : 1 ≤ n) {gf : Nat} {lb : Array Value} (hg : a.eval g = .func (.func gf) #[] lb) (hFg : F.fn gf) (eg : ∀ args w, (callFunc gf args).run P w = .ok (.enter gf args) w)
    {encs : α → Array Value} {Y : α → World → World → Prop} {K : Nat → Prop} {S : List α → Prop} {N : Nat} (hseq : GivesM F (n - 1) P gf lb encs Y K S N w) (hKw : ∀ q, K q → q < w.heap.size) (hps : ∀ x, (encs x).size = ps.size)
    (I : List α → World → Prop) (hI : ∀ s W W', I s W → Tw w.heap.size W W' → I s W') (h0 : I [] w)
    (hround : ∀ (l : Nat) (pre : List α) (x : α) (W0 W1 : World), w.heap.size ≤ l → (∃ r, W1.heap[l]? = some (.loop r)) → I pre W0 → Frm (fun _ => False) W0 W1 → Y x W0 W1 → pre.length < N →
      assign.wpIn (F.inRound l) (n - 1 - 1) P (Exit.then (fun a' W2 => KeepsFrom w.heap.size W1 W2 ∧ ∀ W3, Tw w.heap.size W2 W3 →
        body.wpIn (F.inRound l) (n - 1 - 1) P (Exit.then (fun _ W4 => KeepsFrom w.heap.size W3 W4 ∧ keptS K W1 W4 ∧ I (pre ++ [x]) W4) (fun _ _ _ => False)) a' W3) (fun _ _ _ => False))
        { tmps := (ps.zip (encs x)).foldl (fun t (p, v) => t.setIfInBounds p v) a.tmps, defers := [] } W1)
    (hdone : ∀ (D : Nat) (xs : List α) (W : World), w.heap.size ≤ D → S xs → I xs W → W.heap[D]? = some (.deferred (some [])) → Q .normal { a with defers := { target := .collected D, args := #[] } :: a.defers } W) :
    (Code.rangeFunc g ps assign body).wpIn F n P Q a w := by
  refine wpIn_rangeFunc fun fn hfn => ?_
  rw [hro]
  obtain ⟨ld, hld⟩ : ∃ ld : LoopState → Loop, ld = fun st => { state := st, pending := none, fn := fn, tmps := a.tmps, params := ps, assign := assign, body := body, defers := w.heap.size } := ⟨_, rfl⟩
  obtain ⟨V, hV⟩ : ∃ V, w.alloc (.deferred (some [])) = V := ⟨_, rfl⟩
  have hVs : V.heap.size = w.heap.size + 1 := by rw [← hV]; simp
  have hVD : V.heap[w.heap.size]? = some (.deferred (some [])) := by rw [← hV]; exact World.alloc_heap_new w _
  obtain ⟨W1, hW1⟩ : ∃ W1, V.alloc (.loop (ld .ready)) = W1 := ⟨_, rfl⟩
  have hWL : W1.heap[w.heap.size + 1]? = some (.loop (ld .ready)) := by rw [← hW1, ← hVs]; exact World.alloc_heap_new V _
  have fV : Frm (fun _ => False) V W1 := hW1 ▸ (Frm.refl _ V).alloc _
  have hWD := fV.obj hVD (fun h => h)
  have fW : Frm (fun _ => False) w W1 := (hV ▸ (Frm.refl (fun _ => False) w).alloc (.deferred (some []))).trans fV
  refine ⟨w.heap.size + 1, [{ target := .collected w.heap.size, args := #[] }], W1, { target := .fn (.func gf) lb, args := #[.func (.yield (w.heap.size + 1)) #[] #[]] }, W1, gf, #[.func (.yield (w.heap.size + 1)) #[] #[]] ++ lb, W1, ?_, ?_, ?_, ?_, fun _ => h1, ?_⟩
  · rw [← hW1, ← hV, hld]; exact run_enterLoop_outer _ _ _ _ _
  · simp only [resolve, hg]
    simp [go_sem]
  · intro f hf
    simp [Target.leads] at hf
    subst hf
    exact hFg
  · simp [invoke, go_sem, eg]
  refine (hseq (w.heap.size + 1) (fun pre W => I pre W ∧ W.heap[w.heap.size + 1]? = some (.loop (ld .ready)) ∧ W.heap[w.heap.size]? = some (.deferred (some []))) W1 fW ?_ ⟨hI _ _ _ h0 (Tw.old fW), hWL, hWD⟩).mono ?_
  · rintro pre x X0 X1 ⟨hi, hl0, hd0⟩ hf hy hlen
    have hl := hf.obj hl0 (fun h => h)
    have hd := hf.obj hd0 (fun h => h)
    have hrun := run_yield (P := P) (args := encs x) hl (by rw [hld]; exact hps x)
    rw [hld] at hrun
    refine ⟨fn, _, assign, body, hrun, roundIn_of_wpIn hfn (wpIn_mono (hround _ pre x X0 X1 (by omega) ⟨_, hl⟩ hi hf hy hlen) ?_)⟩
    rintro e a2 X2 hp
    cases e with
    | normal =>
      obtain ⟨hk, hb⟩ := hp
      have hl2 := hk.same _ _ (by omega) hl rfl
      have hd2 := hk.same _ _ (Nat.le_refl _) hd rfl
      refine ⟨_, run_beginRound hl2 (by rw [hld]), wpIn_mono (hb _ (Tw.put _ (by omega) hl2 rfl)) ?_⟩
      have hl3 : (X2.putObj (w.heap.size + 1) (.loop { ld .ready with state := .busy })).heap[w.heap.size + 1]? = some (.loop { ld .ready with state := .busy }) := World.putObj_heap_same (heap_lt hl2)
      have hd3 : (X2.putObj (w.heap.size + 1) (.loop { ld .ready with state := .busy })).heap[w.heap.size]? = some (.deferred (some [])) := (World.putObj_heap_other (by omega)).trans hd2
      rintro e3 a3 X4 hp3
      cases e3 with
      | normal =>
        obtain ⟨hk4, hkk, hi4⟩ := hp3
        have hl4 := hk4.same _ _ (by omega) hl3 rfl
        have hd4 := hk4.same _ _ (Nat.le_refl _) hd3 rfl
        have hend : (Instr.endRound (w.heap.size + 1) none).run P X4 = .ok (.bool true) (X4.putObj (w.heap.size + 1) (.loop (ld .ready))) := by
          have := run_endRound (P := P) none hl4
          rw [hld] at this ⊢
          exact this
        exact ⟨_, _, hend, rfl, ⟨hI _ _ _ hi4 (Tw.put _ (by omega) hl4 rfl), World.putObj_heap_same (heap_lt hl4), (World.putObj_heap_other (by omega)).trans hd4⟩,
          fun q hq => (World.putObj_heap_other (by have := hKw q hq; omega)).trans (hkk q hq)⟩
      | _ => exact hp3.elim
    | _ => exact hp.elim
  · rintro e X ⟨⟨v, rfl⟩, xs, X0, hS, ⟨hi, hl0, hd0⟩, hf⟩
    have hl := hf.obj hl0 (fun h => h)
    have hd := hf.obj hd0 (fun h => h)
    have hend := run_endLoop (P := P) hl (by rw [hld]; simp)
    rw [hld] at hend
    exact ⟨none, _, hend, hdone _ xs _ (Nat.le_refl _) hS (hI _ _ _ (hI _ _ _ hi (Tw.old hf)) (Tw.put _ (by omega) hl rfl)) ((World.putObj_heap_other (by omega)).trans hd)⟩
end
end Go.Proofs.YtiokabhidjafeaaDoor

