/- What lies in memory while a value's chunks are read; cmp.Or of two errors. -/
import Derived.Test.YtlajfmpgodcbmaaValU
import Derived.Lib.AppendZeros
namespace Go.Proofs.Ytlajfmpgodcbmaa
open Go.RowKit

/-- An append whose run is known, in a region that draws. -/
theorem step_append_run {P : Program} {ops : Array Oper} {o : Oper} {a : Act} {w : World} {K : Act → World → Prop} {Q : Exit → Act → World → Prop} {E : Prop}
    (hg : o.guard = none) (s x : Operand) (t tx : TypeId) (hop : o.op = Op.call { callee := Callee.builtin Builtin.append, args := #[s, x], argTypes := #[t, tx] })
    (vs vx : Value) (hs : a.eval s = vs) (hx : a.eval x = vx) (v' : Value) (w' : World) (hr : (Builtin.append_ #[t, tx] o.type #[vs, vx]).run P w = .ok v' w') (hK : K (a.put o.dst v') w') :
    if Region.wanted o (yielded ops a.tmps) = true then Oper.wp P o a w K Q else E := by
  have hw : Region.wanted o (yielded ops a.tmps) = true := by simp [Region.wanted, hg]
  rw [if_pos hw]
  unfold Oper.wp
  simp [execOp, hop, resolve, invoke, builtin, hs, hx, hr, Result.andThen]
  exact hK
theorem idsS_len (k : Nat) (l : List UInt8) (e : Nat) : (idsS k l e).1.length = k := by
  induction k with
  | zero => rfl
  | succ k ih => simp only [idsS, List.length_append, ih, List.length_singleton]
theorem idsS_fit (k : Nat) (l : List UInt8) (e : Nat) : ∀ x ∈ (idsS k l e).1, x < 4294967296 := by
  induction k with
  | zero => intro x hx; cases hx
  | succ k ih =>
    intro x hx
    simp only [idsS, List.mem_append, List.mem_singleton] at hx
    rcases hx with hx | rfl
    · exact ih x hx
    · exact beN_lt 4 _ (nextS_len 4 _ _)
theorem idsS_inv (k : Nat) {l : List UInt8} {e : Nat} (h : e ≠ 0 → l = []) : (idsS k l e).2.2 ≠ 0 → (idsS k l e).2.1 = [] := by
  induction k with
  | zero => exact h
  | succ k ih => simp only [idsS]; exact numS_inv ih
/-- No value. -/
abbrev av0 : Array Value := #[.bool false, .int .i64 0, .slice none 0 0]
/-- Behind k chunks. -/
structure TkI (R : World → List UInt8 → Nat → Prop) (w : World) (b V : Nat) (d : Bool) (n : Nat) (l1 : List UInt8) (e1 k : Nat) (v : Value) (wr : World) : Prop where
  rd : R wr (idsS k l1 e1).2.1 (idsS k l1 e1).2.2
  blk : Blk wr V 24 (av d n v)
  own : Own wr v (idsS k l1 e1).1
  res : Blk wr w.heap.size 24 av0
  frm : Frm (· = b) w wr
  ne : ∀ g, v.ownBlock = some g → w.heap.size < g ∧ g ≠ V

theorem tk_step {R : World → List UInt8 → Nat → Prop} {w wr ww : World} {b V : Nat} {d : Bool} {n : Nat} {l1 : List UInt8} {e1 k : Nat} {v : Value} (hR : ∀ W W' l e, R W l e → Frm (fun j => j ≠ b) W W' → R W' l e)
    (h : TkI R w b V d n l1 e1 k v wr) (hk : k ≤ 60) (hb : b < w.heap.size) (hV : w.heap.size < V) (hf : Frm (· = b) wr ww) (hr : R ww (idsS (k + 1) l1 e1).2.1 (idsS (k + 1) l1 e1).2.2) (x : Nat) (hx : (numS 4 (idsS k l1 e1).2.1 (idsS k l1 e1).2.2).1 = x) :
    ∃ a' n' c' w6, (Builtin.append_ #[22, 22] 22 #[v, .slice (some ⟨ww.heap.size, 0, none⟩) 1 1]).run Try.prog (ww.alloc (.cells #[.int .u32 x] 35)) = .ok (.slice a' n' c') w6 ∧
      TkI R w b V d n l1 e1 (k + 1) (.slice a' n' c') (w6.setCell ⟨V, 2, none⟩ (.slice a' n' c')) ∧ ww.cell? ⟨V, 2, none⟩ = some v ∧ (ww.alloc (.cells #[.int .u32 x] 35)).cell? ⟨V, 2, none⟩ = some v ∧ w6.cell? ⟨V, 2, none⟩ = some v ∧ w6.frozen? ⟨V, 2, none⟩ = false := by
  have hlen := idsS_len k l1 e1
  have hVb : V ≠ b := by omega
  have hAb : w.heap.size ≠ b := by omega
  have fa : Frm (· = b) wr (ww.alloc (.cells #[.int .u32 x] 35)) := hf.alloc _
  have fb : Frm (fun j => j ≠ b) ww (ww.alloc (.cells #[.int .u32 x] 35)) := (Frm.refl _ ww).alloc _
  have hvb : ∀ g, v.ownBlock = some g → g ≠ b := fun g hg => by have := h.ne g hg; omega
  obtain ⟨v', w6, hrun, hown, hg, hn⟩ := append_ids _ _ _ _ [x] (h.own.keep fa hvb) (Ids.one ww x) (by rw [hlen]; simp; omega)
  obtain ⟨a', c', hv', _, _⟩ := Row.slice hown
  have B6 := (h.blk.keep fa hVb).beside hg (fun e => (h.ne V e).2 rfl)
  have R6 := (h.res.keep fa hAb).beside hg (fun e => Nat.lt_irrefl _ (h.ne _ e).1)
  have f6 : Frm (fun j => j ≠ b) ww w6 := fb.grown hg (fun j _ e => hvb j e)
  have k6 : Frm (· = b) w w6 := (h.frm.trans fa).grown hg (fun j hj e => by have := h.ne j e; omega)
  have hsz := h.frm.size
  have hsz2 := fa.size
  have hVlt := h.blk.lt
  have hne : ∀ g, v'.ownBlock = some g → w.heap.size < g ∧ g ≠ V := fun g hgg => (hn g hgg).elim (fun e => h.ne g e) (fun e => by omega)
  subst hv'
  refine ⟨a', _, c', w6, hrun, ⟨?_, ?_, ?_, ?_, ?_, hne⟩, ((h.blk.keep hf hVb)).cell 2 rfl, (h.blk.keep fa hVb).cell 2 rfl, B6.cell 2 rfl, B6.free 2⟩
  · exact hR _ _ _ _ hr (f6.setCell (p := ⟨V, 2, none⟩) (fun _ => hVb) _)
  · exact B6.set 2 _
  · have e : (idsS (k + 1) l1 e1).1 = (idsS k l1 e1).1 ++ [x] := by simp only [idsS, hx]
    rw [e]
    exact Row.setOther hown (p := ⟨V, 2, none⟩) (fun e => (hne V e).2 rfl) _
  · exact R6.other (p := ⟨V, 2, none⟩) (by simp; omega) _
  · exact k6.setCell (p := ⟨V, 2, none⟩) (fun hh => absurd hh (by simp; omega)) _

/-- The first one that is not 0. -/
def orN (x y : Nat) : Nat := if x = 0 then y else x
set_option maxRecDepth 100000 in
set_option maxHeartbeats 1000000 in
theorem cmpOr (g : Nat) (x y : Nat) (w : World) (h : Blk w g 31 #[.int .i64 x, .int .i64 y]) : Calls Try.prog 47 #[.slice (some ⟨g, 0, none⟩) 2 2] w fun e w' => e = .returned (.int .i64 (orN x y)) ∧ w = w' := by
  have c0 := h.cell 0 rfl
  have c1 := h.cell 1 rfl
  obtain ⟨c, hc⟩ : ∃ c, orN x y = c := ⟨_, rfl⟩
  rw [hc]
  have HC := Lib.hid hc
  clear hc h
  go_enter Try.func47, Try.ntmps47
  go_wp2
  go_loop [8] (fun i => ∃ k : Nat, k ≤ 2 ∧ i = .int .i64 k ∧ (1 ≤ k → x = 0) ∧ (2 ≤ k → y = 0)) (fun i => 2 - (intOf i).toNat)
  case atStart => exact ⟨0, by omega, rfl, fun h => by omega, fun h => by omega⟩
  case round =>
    obtain ⟨k, hk, rfl, h1, h2⟩ := hrel
    have H1 := Lib.hid h1
    have H2 := Lib.hid h2
    clear h1 h2
    rcases (show k = 0 ∨ k = 1 ∨ k = 2 by omega) with rfl | rfl | rfl
    · by_cases hx : x = 0
      · subst hx
        go_wp2
        go_round
        case rel => exact ⟨1, by omega, rfl, fun _ => by simp, fun h => by omega⟩
        case measure => simp [intOf]
      · have hq : ((x : Int) != 0) = true := by rw [bne_iff_ne]; omega
        have HX := Lib.hid hx
        clear hx
        go_wp2
        go_ret
        exact ⟨by rw [← HC.out]; unfold orN; rw [if_neg HX.out]; rfl, rfl⟩
    · have hx := H1.out (Nat.le_refl _)
      subst hx
      by_cases hy : y = 0
      · subst hy
        go_wp2
        go_round
        case rel => exact ⟨2, by omega, rfl, fun _ => by simp, fun _ => by simp⟩
        case measure => simp [intOf]
      · have hq : ((y : Int) != 0) = true := by rw [bne_iff_ne]; omega
        clear hy
        go_wp2
        go_ret
        exact ⟨by rw [← HC.out]; rfl, rfl⟩
    · have hx := H1.out (by omega)
      have hy := H2.out (by omega)
      subst hx hy
      go_wp2
      go_ret
      exact ⟨by rw [← HC.out]; rfl, rfl⟩
end Go.Proofs.Ytlajfmpgodcbmaa
