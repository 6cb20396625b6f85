/- The document's own Join: of any registers. No condition but that the numbers have their bits. -/
import Derived.Test.YtmdmkcofafhlcaaSwJ
import Derived.Test.YtmdmkcofafhlcaaSwA
namespace Go.Proofs.Ytmdmkcofafhlcaa
open Go.RowKit

section
variable {ops : Array Oper} {Q : Exit → Act → World → Prop} {r : Nat} {a : Act} {W : World}
/-- Siblings that a call has answered are stored in a register. -/
theorem tail_setR {w0 : World} {o2 o3 : Oper} {x2 y2 : Operand} {d2 : Tmp} (B : Nat) (f : Nat → Nat) (l l' : List SibI) (v : Value) (ap : Option Addr) (n cp : Nat)
    (i2 : ops[r]? = some o2) (i3 : ops[r + 1]? = some o3) (g2 : o2.guard = none) (g3 : o3.guard = none) (n2 : o2.dst = some d2) (n3 : o3.dst = none) (p3 : o3.op = .store 45 x2 y2)
    (h : FillT 47 w0 B f l v W) (o' : OwnL W (.slice ap n cp) l') (nb : ∀ g, (Value.slice ap n cp).ownBlock = some g → B < g)
    (h2 : ∀ W', (execOp a.eval o2).run Try.prog W' = .ok (.value (.pointer (some ⟨B, 8, none⟩))) W')
    (hx2 : (a.put (some d2) (.pointer (some ⟨B, 8, none⟩))).eval x2 = .pointer (some ⟨B, 8, none⟩)) (hy2 : (a.put (some d2) (.pointer (some ⟨B, 8, none⟩))).eval y2 = .slice ap n cp)
    (hK : ∀ W', FillT 47 w0 B f l' (.slice ap n cp) W' → Q .normal (a.put (some d2) (.pointer (some ⟨B, 8, none⟩))) W') : wpTail Try.prog ops Q r 2 a W := by
  refine wpTail.val i2 g2 n2 (h2 W) ?_
  refine wpTail.store_RL i3 g3 n3 _ _ p3 B f v ap n cp hx2 hy2 h.blk fun w7 b7 g7 z7 => ?_
  refine hK w7 ⟨b7, o'.keep g7 (fun g e h => by have h : g = B := h; have := nb g e; omega), fun g e => ⟨by have := nb g e; have := h.lo; omega, by have := nb g e; omega⟩, h.frm.next g7 fun k hk e => ?_, h.lo⟩
  have e : k = B := e
  have := h.lo
  omega
end
/-- A number is stored into a register's context. -/
theorem wpl_store_rctx {ops : Array Oper} {rest : List Oper} {o : Oper} {a : Act} {w : World} {Q : Exit → Act → World → Prop} (hgd : o.guard = none) (x y : Operand) (ho : o.op = .store 22 x y)
    (b k n : Nat) (f : Nat → Nat) (v : Value) (hk : k < 8) (hx : a.eval x = .pointer (some ⟨b, k, none⟩)) (hy : a.eval y = .int .u32 n) (h : Blk w b 47 (rgc f v))
    (hK : ∀ w', Blk w' b 47 (rgc (upd8 f k n) v) → Frm (· = b) w w' → w'.heap.size = w.heap.size → wpList Try.prog ops Q rest (a.put o.dst undef) w') : wpList Try.prog ops Q (o :: rest) a w := by
  have c0 := rcellsT h k hk
  have f0 := h.free k
  have a3 := Try.isAgg22
  have z3 := Try.sizeOf22
  refine wpList_plain hgd fun K hK' => ?_
  unfold Oper.wp execOp
  simp only [ho, hx, hy]
  go_simp
  refine hK' _ _ (hK _ ?_ ?_ ?_)
  · have := h.set k (.int .u32 n)
    rwa [show (rgc f v).setIfInBounds k (.int .u32 n) = rgc (upd8 f k n) v from by rcases lt8 hk with rfl | rfl | rfl | rfl | rfl | rfl | rfl | rfl <;> rfl] at this
  · exact (Frm.refl (· = b) w).setCell (p := ⟨b, k, none⟩) (fun _ => rfl) _
  · simp [World.setCell]
/-- The first k joined. -/
def mxI (f g : Nat → Nat) (k : Nat) : Nat → Nat := fun j => if j < k then max (f j) (g j) else f j
theorem rgc_mxI (f g : Nat → Nat) (v : Value) : rgc (mxI f g 8) v = rgc (jn8 f g) v := by simp [mxI, jn8]
theorem rgc_mx0 (f g : Nat → Nat) (v : Value) : rgc (mxI f g 0) v = rgc f v := by simp [mxI]
theorem rgc_up (f g : Nat → Nat) (v : Value) {k : Nat} (hk : k < 8) (h : f k < g k) : rgc (upd8 (mxI f g k) k (g k)) v = rgc (mxI f g (k + 1)) v := by
  have e : upd8 (mxI f g k) k (g k) = mxI f g (k + 1) := by
    funext j
    unfold upd8 mxI
    by_cases h1 : j = k
    · subst h1; simp; omega
    · by_cases h2 : j < k
      · rw [if_neg h1, if_pos h2, if_pos (by omega)]
      · rw [if_neg h1, if_neg h2, if_neg (by omega)]
  rw [e]
theorem rgc_no (f g : Nat → Nat) (v : Value) {k : Nat} (h : ¬ f k < g k) : rgc (mxI f g (k + 1)) v = rgc (mxI f g k) v := by
  have e : mxI f g (k + 1) = mxI f g k := by
    funext j
    unfold mxI
    by_cases h1 : j = k
    · subst h1; simp; omega
    · by_cases h2 : j < k
      · rw [if_pos h2, if_pos (by omega)]
      · rw [if_neg h2, if_neg (by omega)]
  rw [e]
theorem mxI_at (f g : Nat → Nat) (k : Nat) : mxI f g k k = f k := by simp [mxI]
theorem puts_take {p : SibI → Bool} (l : List SibI) (k : Nat) (h : k < l.length) (acc : List SibI) : ((l.take (k + 1)).filter p).foldl putL acc = if p l[k] then putL (((l.take k).filter p).foldl putL acc) l[k] else ((l.take k).filter p).foldl putL acc := by
  rw [List.take_succ_eq_append_getElem h, List.filter_append, List.foldl_append]
  by_cases hp : p l[k] = true
  · rw [if_pos hp]; simp [hp]
  · rw [if_neg hp]; simp [hp]
theorem puts_len (p : SibI → Bool) (l : List SibI) (k : Nat) (acc : List SibI) : (((l.take k).filter p).foldl putL acc).length ≤ acc.length + l.length := by
  rw [(puts_perm _ acc).length_eq, List.length_append]
  have := List.length_filter_le p (l.take k)
  have : (l.take k).length ≤ l.length := by rw [List.length_take]; omega
  omega
/-- A call's answer: a register, whose siblings are of the call's own, and an error's number. -/
def RegE (f : Nat → Nat) (l : List SibI) (e0 : Nat) (w : World) (e : Ending) (w' : World) : Prop := ∃ v', e = .returned (.tuple #[rg f v', .int .i64 e0]) ∧ OwnL w' v' l ∧ (∀ g, v'.ownBlock = some g → w.heap.size ≤ g) ∧ Frm (fun _ => False) w w'
def rj12aM : List Nat := [1, 3, 4, 12, 16, 60, 124, 252, 511, 1023, 2047, 4095, 5119, 13311, 17407, 62463, 127999, 259071, 524287, 1048575, 2097151]
def rj12aR (g : Nat → Nat) (v2 : Value) (m : List SibI) (N c off k n cap : Nat) (x : SibI) : List ((Nat → Value) → World → Prop) := [
  fun val _ => val 0 = rg g v2,
  fun val W => ∃ z, (val 1) = z ∧ DL W z (m.map SibI.d),
  fun val _ => val 2 = .pointer (some ⟨N, 8, none⟩),
  fun val _ => val 3 = .slice (some ⟨c, off, none⟩) n cap,
  fun val _ => val 4 = .int .i64 (k : Int),
  fun val _ => val 5 = .pointer (some ⟨c, off + k * 3, none⟩),
  fun val _ => val 6 = .pointer (some ⟨c, off + k * 3, none⟩),
  fun val _ => val 7 = .agg (dv x.r x.n),
  fun val _ => val 8 = .bool true,
  fun val _ => val 9 = .bool true,
  fun val _ => val 10 = undef,
  fun val _ => val 11 = undef,
  fun val _ => val 12 = undef,
  fun val _ => val 13 = undef,
  fun val _ => val 14 = undef,
  fun val _ => val 15 = undef,
  fun val _ => val 16 = undef,
  fun val _ => val 17 = undef,
  fun val _ => val 18 = undef,
  fun val _ => val 19 = undef,
  fun val _ => val 20 = .bool true]
def rj12bM : List Nat := [1, 3, 4, 12, 16, 60, 124, 252, 511, 1023, 2047, 4095, 5119, 13311, 17407, 62463, 127999, 259071, 524287, 1048575, 2097151]
def rj12bR (g : Nat → Nat) (v2 : Value) (m : List SibI) (N M c off k n cap : Nat) (x : SibI) (q : Bool) : List ((Nat → Value) → World → Prop) := [
  fun val _ => val 0 = rg g v2,
  fun val W => ∃ z, (val 1) = z ∧ DL W z (m.map SibI.d),
  fun val _ => val 2 = .pointer (some ⟨N, 8, none⟩),
  fun val _ => val 3 = .slice (some ⟨c, off, none⟩) n cap,
  fun val _ => val 4 = .int .i64 (k : Int),
  fun val _ => val 5 = .pointer (some ⟨c, off + k * 3, none⟩),
  fun val _ => val 6 = .pointer (some ⟨c, off + k * 3, none⟩),
  fun val _ => val 7 = .agg (dv x.r x.n),
  fun val _ => val 8 = .bool false,
  fun val _ => val 9 = .bool false,
  fun val _ => val 10 = .pointer (some ⟨M, 0, none⟩),
  fun val _ => val 11 = .agg (vv g),
  fun val _ => val 12 = .pointer (some ⟨N, 8, none⟩),
  fun val _ => val 13 = .slice (some ⟨c, off, none⟩) n cap,
  fun val _ => val 14 = .int .i64 (k : Int),
  fun val _ => val 15 = .pointer (some ⟨c, off + k * 3, none⟩),
  fun val _ => val 16 = .pointer (some ⟨c, off + k * 3, none⟩),
  fun val _ => val 17 = .agg (dv x.r x.n),
  fun val _ => val 18 = .bool q,
  fun val _ => val 19 = .bool (!q),
  fun val _ => val 20 = .bool (!q)]
def rj13M : List Nat := [1, 3, 4, 12, 16, 60, 124, 255, 511, 767]
def rj13R (u : Value) (lf : List SibI) (B N c off k n cap : Nat) (x : SibI) : List ((Nat → Value) → World → Prop) := [
  fun val _ => val 0 = .pointer (some ⟨B, 8, none⟩),
  fun val _ => val 1 = u,
  fun val _ => val 2 = .pointer (some ⟨N, 8, none⟩),
  fun val _ => val 3 = .slice (some ⟨c, off, none⟩) n cap,
  fun val _ => val 4 = .int .i64 (k : Int),
  fun val _ => val 5 = .pointer (some ⟨c, off + k * 3, none⟩),
  fun val _ => val 6 = .agg #[.int .u8 x.r, .int .u32 x.n, .string (bs x.s)],
  fun val W => ∃ z, (val 7) = z ∧ OwnL W z (putL lf x) ∧ ∀ g, z.ownBlock = some g → B < g]
def rj17M : List Nat := [1, 3, 4, 12, 16, 60, 124, 252, 511, 1023]
def rj17R (f : Nat → Nat) (N M c off k n cap : Nat) (x : SibI) (q : Bool) : List ((Nat → Value) → World → Prop) := [
  fun val _ => val 0 = .pointer (some ⟨N, 0, none⟩),
  fun val _ => val 1 = .agg (vv f),
  fun val _ => val 2 = .pointer (some ⟨M, 8, none⟩),
  fun val _ => val 3 = .slice (some ⟨c, off, none⟩) n cap,
  fun val _ => val 4 = .int .i64 (k : Int),
  fun val _ => val 5 = .pointer (some ⟨c, off + k * 3, none⟩),
  fun val _ => val 6 = .pointer (some ⟨c, off + k * 3, none⟩),
  fun val _ => val 7 = .agg (dv x.r x.n),
  fun val _ => val 8 = .bool q,
  fun val _ => val 9 = .bool (!q)]
def rj18M : List Nat := [1, 3, 4, 12, 16, 60, 124, 255, 511, 767]
def rj18R (u : Value) (lf : List SibI) (B M c off k n cap : Nat) (x : SibI) : List ((Nat → Value) → World → Prop) := [
  fun val _ => val 0 = .pointer (some ⟨B, 8, none⟩),
  fun val _ => val 1 = u,
  fun val _ => val 2 = .pointer (some ⟨M, 8, none⟩),
  fun val _ => val 3 = .slice (some ⟨c, off, none⟩) n cap,
  fun val _ => val 4 = .int .i64 (k : Int),
  fun val _ => val 5 = .pointer (some ⟨c, off + k * 3, none⟩),
  fun val _ => val 6 = .agg #[.int .u8 x.r, .int .u32 x.n, .string (bs x.s)],
  fun val W => ∃ z, (val 7) = z ∧ OwnL W z (putL lf x) ∧ ∀ g, z.ownBlock = some g → B < g]

set_option maxRecDepth 100000 in
set_option maxHeartbeats 16000000 in
theorem rjoin6_any (f g : Nat → Nat) (v1 v2 : Value) (l m : List SibI) (w : World) (hf : Fit8 f) (hg : Fit8 g) (h : SL w v1 l) (hm : SL w v2 m) (hb : l.length ≤ 300) (hbm : m.length ≤ 300) :
    Calls Try.prog 29 #[rg f v1, rg g v2] w (RegE (rjoinS f g l m).1 (rjoinS f g l m).2.1 (rjoinS f g l m).2.2 w) := by
  have HJ := Lib.hid (show rjoinS f g l m = if okR f l && okR g m then (if 8 < (rstay f g l m).length then (fun _ => 0, [], 7) else (jn8 f g, rstay f g l m, 0)) else (fun _ => 0, [], 4) from rfl)
  have HST := Lib.hid (show rstay f g l m = (m.filter (fun x => !has8 f x.r x.n)).foldl putL ((l.filter (fun x => decide (x.d ∈ m.map SibI.d) || !has8 g x.r x.n)).foldl putL []) from rfl)
  have HLM := Lib.hid (show m.length ≤ 1000 by omega)
  generalize rjoinS f g l m = J at *
  obtain ⟨a1, cap1, rfl, h11, h12⟩ := h.slice
  obtain ⟨a2, cap2, rfl, h21, h22⟩ := hm.slice
  unfold maxLen at h12 h22
  have g0 : Frm (fun _ => False) w (((w.alloc (.cells (rgc f (.slice a1 l.length cap1)) 47)).alloc (.cells (rgc g (.slice a2 m.length cap2)) 47)).alloc (.cells rz 47)) := (((Frm.refl _ w).alloc _).alloc _).alloc _
  have b0 : Blk (((w.alloc (.cells (rgc f (.slice a1 l.length cap1)) 47)).alloc (.cells (rgc g (.slice a2 m.length cap2)) 47)).alloc (.cells rz 47)) w.heap.size 47 (rgc f (.slice a1 l.length cap1)) := ((Blk.alloc w _ _).old _).old _
  have b1 : Blk (((w.alloc (.cells (rgc f (.slice a1 l.length cap1)) 47)).alloc (.cells (rgc g (.slice a2 m.length cap2)) 47)).alloc (.cells rz 47)) (w.heap.size + 1) 47 (rgc g (.slice a2 m.length cap2)) := (Blk.at1 w _ _ _).old _
  have b2 : Blk (((w.alloc (.cells (rgc f (.slice a1 l.length cap1)) 47)).alloc (.cells (rgc g (.slice a2 m.length cap2)) 47)).alloc (.cells rz 47)) (w.heap.size + 1 + 1) 47 rz := Blk.at2 w _ _ _ _
  go_enter Try.func29, Try.ntmps29
  go_upto_region 1 with fail
  generalize ((w.alloc (.cells (rgc f (.slice a1 l.length cap1)) 47)).alloc (.cells (rgc g (.slice a2 m.length cap2)) 47)).alloc (.cells rz 47) = w0 at *
  obtain ⟨N, hN⟩ : ∃ N, w.heap.size = N := ⟨_, rfl⟩
  have HN := Lib.hid hN
  rw [hN] at b0 b1 b2 ⊢
  clear hN
  have l0 := load_rreg b0
  have HC1 := Lib.hid (rcheck_any f _ l w0 hf (h.keepF g0))
  go_wp2_with ((with_reducible refine wpl_load rfl _ rfl ?_ l0 ?_); (focus rfl))
  refine HC1.out.mono ?_
  rintro e w1 ⟨rfl, g1⟩
  clear l0 HC1
  have b0 := b0.keep g1 (fun h => h)
  have b1 := b1.keep g1 (fun h => h)
  have b2 := b2.keep g1 (fun h => h)
  have k1 := g0.trans g1
  clear g0 g1
  cases ho1 : okR f l with
  | false =>
    have hck : chkS f l = 4 := by unfold chkS; rw [ho1]; rfl
    rw [hck]
    have hJe : J = (fun _ => 0, [], 4) := by rw [HJ.out, ho1]; rfl
    subst hJe
    clear hck ho1
    go_wp2_with ((with_reducible refine wpl_store_blk rfl 47 _ _ rfl (N + 1 + 1) rz rz ?_ ?_ b2 rfl ?_ ?_ ?_); (focus rfl); (focus rfl); (focus (show _ = some 9; kernel_rfl)); (focus (simp [Value.oneCell'])); intro w2 e2 g2 z2; have c8 := e2.cell 8 rfl; have h2 := rcellsT (show Blk _ _ _ (rgc (fun _ => 0) (.slice none 0 0)) from e2))
    refine bodyPost_ret (v := .tuple #[rg (fun _ => 0) (.slice none 0 0), .int .i64 4]) (by simp [results, Try.results29, go_sem, h2, c8]) rfl ?_
    exact ⟨_, rfl, OwnL.nil_ _, (fun g hg => by cases hg), k1.next g2 (fun k hk h => by have h : k = N + 1 + 1 := h; have := HN.out; omega)⟩
  | true =>
    have hck : chkS f l = 0 := by unfold chkS; rw [ho1]; rfl
    rw [hck]
    have q0 := b1.cell 0 rfl
    have q1 := b1.cell 1 rfl
    have q2 := b1.cell 2 rfl
    have q3 := b1.cell 3 rfl
    have q4 := b1.cell 4 rfl
    have q5 := b1.cell 5 rfl
    have q6 := b1.cell 6 rfl
    have q7 := b1.cell 7 rfl
    have q8 := b1.cell 8 rfl
    have HC2 := Lib.hid (rcheck_any g _ m w1 hg (hm.keepF k1))
    clear hck
    go_wp2_with fail
    refine HC2.out.mono ?_
    rintro e w2 ⟨rfl, g2⟩
    clear q0 q1 q2 q3 q4 q5 q6 q7 q8 HC2
    have b0 := b0.keep g2 (fun h => h)
    have b1 := b1.keep g2 (fun h => h)
    have b2 := b2.keep g2 (fun h => h)
    have k2 := k1.trans g2
    clear k1 g2
    cases ho2 : okR g m with
    | false =>
      have hck : chkS g m = 4 := by unfold chkS; rw [ho2]; rfl
      rw [hck]
      have hJe : J = (fun _ => 0, [], 4) := by rw [HJ.out, ho1, ho2]; rfl
      subst hJe
      clear hck ho1 ho2
      go_wp2_with ((with_reducible refine wpl_store_blk rfl 47 _ _ rfl (N + 1 + 1) rz rz ?_ ?_ b2 rfl ?_ ?_ ?_); (focus rfl); (focus rfl); (focus (show _ = some 9; kernel_rfl)); (focus (simp [Value.oneCell'])); intro w3 e2 g3 z2; have c8 := e2.cell 8 rfl; have h2 := rcellsT (show Blk _ _ _ (rgc (fun _ => 0) (.slice none 0 0)) from e2))
      refine bodyPost_ret (v := .tuple #[rg (fun _ => 0) (.slice none 0 0), .int .i64 4]) (by simp [results, Try.results29, go_sem, h2, c8]) rfl ?_
      exact ⟨_, rfl, OwnL.nil_ _, (fun g hg => by cases hg), k2.next g3 (fun k hk h => by have h : k = N + 1 + 1 := h; have := HN.out; omega)⟩
    | true =>
      have hck : chkS g m = 0 := by unfold chkS; rw [ho2]; rfl
      rw [hck]
      have hJe := HJ.out
      rw [ho1, ho2] at hJe
      simp only [Bool.and_self, if_true] at hJe
      have HJ2 := Lib.hid hJe
      clear hck ho1 ho2 HJ hJe
      have lf := load_rctx b0
      have b6 := Blk.alloc w2 47 rz
      have hN3 := b2.lt
      go_upto_region 4 with (first
        | ((with_reducible refine wpl_load rfl _ rfl ?_ lf ?_); (focus rfl))
        | ((with_reducible refine wpl_store_blk rfl 47 _ _ rfl w2.heap.size (rgc f (.slice none 0 0)) rz ?_ ?_ b6 rfl ?_ ?_ ?_); (focus rfl); (focus rfl); (focus (show _ = some 9; kernel_rfl)); (focus (simp [Value.oneCell'])); intro w3 e6 g3 z3))
      have g3' : Frm (fun _ => False) w2 w3 := ((Frm.refl _ w2).alloc _).next g3 (fun k hk h => by have h : k = w2.heap.size := h; omega)
      obtain ⟨B, hB⟩ : ∃ B, w2.heap.size = B := ⟨_, rfl⟩
      rw [hB] at e6 hN3 ⊢
      have HB0 := Lib.hid (fun W (g : Frm (fun _ => False) w2 W) => b0.keep g (fun h => h))
      have HB1 := Lib.hid (fun W (g : Frm (fun _ => False) w2 W) => b1.keep g (fun h => h))
      have HB2 := Lib.hid (fun W (g : Frm (fun _ => False) w2 W) => b2.keep g (fun h => h))
      have HBE := Lib.hid hB
      obtain ⟨M, hM⟩ : ∃ M, N + 1 = M := ⟨_, rfl⟩
      rw [hM] at HB1 HB2 ⊢
      rw [← rgc_mx0 f g] at e6
      clear lf b6 g3 z3 hB b0 b1 b2
      go_wp2_with fail
      go_loopw [7] (fun i wr => ∃ k : Nat, k ≤ 8 ∧ i = .int .i64 k ∧ Blk wr B 47 (rgc (mxI f g k) (.slice none 0 0)) ∧ Frm (fun _ => False) w2 wr) (fun i _ => 8 - (intOf i).toNat)
      case atStart => exact ⟨0, by omega, rfl, e6, g3'⟩
      case round =>
        obtain ⟨k, hk, rfl, eB, f1⟩ := hrel
        clear e6 g3'
        by_cases hk8 : k < 8
        · have cB := rcellsT eB k hk8
          rw [mxI_at] at cB
          have cM := rcellsT (HB1.out wr f1) k hk8
          have hki : (k : Int) < 8 := by omega
          have hk0 : (0 : Int) ≤ (k : Int) := by omega
          have HEB := Lib.hid eB
          by_cases hlt : f k < g k
          · have hgd : ¬ g k ≤ f k := by omega
            have HUP := Lib.hid (rgc_up f g (.slice none 0 0) hk8 hlt)
            clear hlt eB
            go_upto_region 7 with fail
            go_quiet (fail)
            have cM2 : (wr.drewN nq).cell? ⟨M, k, none⟩ = some (.int .u32 (g k)) := cM
            have eB2 : Blk (wr.drewN nq) B 47 (rgc (mxI f g k) (.slice none 0 0)) := HEB.out.keep (X := fun _ => False) ((Frm.refl _ wr).drewN nq) (fun h => h)
            have HEB2 := Lib.hid eB2
            have HF1 := Lib.hid (f1.trans ((Frm.refl _ wr).drewN nq))
            clear eB2 f1
            go_wp2_with ((with_reducible refine wpl_store_rctx rfl _ _ rfl B k (g k) (mxI f g k) (.slice none 0 0) hk8 ?_ ?_ HEB2.out ?_); (focus rfl); (focus rfl); intro w4 e4 g4 z4)
            go_roundw
            case rel => exact ⟨k + 1, by omega, by go_num, by rw [← HUP.out]; exact e4, HF1.out.next g4 (fun q hq h => by have h : q = B := h; have := HBE.out; omega)⟩
            case measure => simp [intOf]; omega
          · have hgd : g k ≤ f k := by omega
            have HUP := Lib.hid (rgc_no f g (.slice none 0 0) hlt)
            clear hlt eB
            go_upto_region 7 with fail
            go_quiet (fail)
            have HF1 := Lib.hid (f1.trans ((Frm.refl _ wr).drewN nq))
            have HEB2 : Hid (Blk (wr.drewN nq) B 47 (rgc (mxI f g k) (.slice none 0 0))) := Lib.hid (HEB.out.keep (X := fun _ => False) ((Frm.refl _ wr).drewN nq) (fun h => h))
            clear f1
            go_wp2_with fail
            go_roundw
            case rel => exact ⟨k + 1, by omega, by go_num, by rw [HUP.out]; exact HEB2.out, HF1.out⟩
            case measure => simp [intOf]; omega
        · obtain rfl : k = 8 := by omega
          rw [rgc_mxI] at eB
          obtain ⟨w4, hw4⟩ : ∃ w4, w4 = wr := ⟨_, rfl⟩
          rw [← hw4] at eB f1 ⊢
          clear hw4 hk8 hk
          have F0 : FillT 47 w2 B (jn8 f g) (((l.take 0).filter (fun x => decide (x.d ∈ m.map SibI.d) || !has8 g x.r x.n)).foldl putL []) (.slice none 0 0) w4 := ⟨eB, by rw [List.take_zero]; exact OwnL.nil_ _, fun _ h => (by cases h), f1, Nat.le_of_eq HBE.out⟩
          have hs0 := h.keepF k2
          have hm0 := hm.keepF k2
          clear eB f1
          go_wp2_with fail
          go_loopw [8] (fun i wr => ∃ (k : Nat) (u : Value), k ≤ l.length ∧ i = .int .i64 k ∧ FillT 47 w2 B (jn8 f g) (((l.take k).filter (fun x => decide (x.d ∈ m.map SibI.d) || !has8 g x.r x.n)).foldl putL []) u wr) (fun i _ => l.length - (intOf i).toNat)
          case atStart => exact ⟨0, _, Nat.zero_le _, rfl, F0⟩
          case round =>
            obtain ⟨k, u, hk, rfl, F1⟩ := hrel
            clear F0
            have HF := Lib.hid F1
            have c8 := (HB0.out wr F1.frm).cell 8 rfl
            clear F1
            by_cases hlt : k < l.length
            · obtain ⟨c, off, rfl, _, _, _⟩ := hs0.cells k hlt
              have HX : Hid (∀ W, Frm (fun _ => False) wr W → W.cell? ⟨c, off + k * 3, none⟩ = some (.int .u8 l[k].r) ∧ W.cell? ⟨c, off + k * 3 + 1, none⟩ = some (.int .u32 l[k].n) ∧ W.cell? ⟨c, off + k * 3 + 2, none⟩ = some (.string (bs l[k].s))) := Lib.hid fun W gW => by
                obtain ⟨g2, off2, e, x0, x1, x2⟩ := (hs0.keepF (HF.out.frm.trans gW)).cells k hlt
                cases e
                exact ⟨x0, x1, x2⟩
              have HB : Hid (∀ W, Frm (fun _ => False) wr W → Blk W N 47 (rgc f (.slice (some ⟨c, off, none⟩) l.length cap1))) := Lib.hid fun W gW => HB0.out W (HF.out.frm.trans gW)
              have HTK := Lib.hid (puts_take (p := (fun x => decide (x.d ∈ m.map SibI.d) || !has8 g x.r x.n)) l k hlt ([] : List SibI))
              have hlen := puts_len (fun x => decide (x.d ∈ m.map SibI.d) || !has8 g x.r x.n) l k ([] : List SibI)
              have hki : (k : Int) < (l.length : Int) := by omega
              have hk0 : (0 : Int) ≤ (k : Int) := by omega
              obtain ⟨x, hx⟩ : ∃ x, l[k] = x := ⟨_, rfl⟩
              rw [hx] at HX HTK
              generalize ((l.take k).filter (fun x => decide (x.d ∈ m.map SibI.d) || !has8 g x.r x.n)).foldl putL ([] : List SibI) = lf at *
              clear hx
              have HM : Hid (∀ W, Frm (fun _ => False) wr W → Blk W M 47 (rgc g (.slice a2 m.length cap2))) := Lib.hid fun W gW => HB1.out W (HF.out.frm.trans gW)
              have HMS : Hid (∀ W, Frm (fun _ => False) wr W → SL W (.slice a2 m.length cap2) m) := Lib.hid fun W gW => hm0.keepF (HF.out.frm.trans gW)
              have hlf : lf.length ≤ 1000 := by simp only [List.length_nil] at hlen; omega
              clear hlen
              have hTK := HTK.out
              cases hq1 : decide (x.d ∈ m.map SibI.d) with
              | true =>
                have HQ1 := Lib.hid hq1
                rw [hq1, Bool.true_or, if_pos rfl] at hTK
                have HNX := Lib.hid hTK
                clear hTK HTK hq1
                go_upto_region 12 with fail
                rename_i hK
                clear c8
                have D : Frm (fun _ => False) wr wr.drew := (Frm.refl _ _).drew
                refine wp_region_late 21 0 [] [[], [0], [], [2], [], [3, 4], [5], [6], [1, 7], [8], [9], [9, 10], [9], [9, 12], [9], [9, 13, 14], [9, 15], [9, 16], [9, 11, 17], [9, 18], [9, 19]] rj12aM (rj12aR g (.slice a2 m.length cap2) m N c off k l.length cap1 x) (by kernel_rfl) rfl rfl rfl (by kernel_rfl) (by kernel_rfl) (by kernel_rfl) (by kernel_rfl) rfl (by kernel_rfl) (by kernel_rfl) (by kernel_rfl) (by kernel_rfl) (fun val => ?_) ?_
                · try dsimp only
                  refine RelO.next (k' := 1) rfl (fun W gW hF => ?_) ?_
                  focus
                    exact OpOK.load (by rfl) _ rfl (by rfl) (load_rreg (HM.out W (D.trans gW))) (fun W' _ => rfl)
                  try simp only [Act.put, List.setIfInBounds_toArray, List.set_cons_zero, List.set_cons_succ]
                  refine RelO.next (k' := 2) rfl (fun W gW hF => ?_) ?_
                  focus
                    obtain ⟨h0, _⟩ := hF
                    have e0 : val 0 = rg g (.slice a2 m.length cap2) := h0 _ (Frm.refl _ W)
                    try simp only [e0]
                    try simp only [tupAt]
                    refine OpOK.call (by rfl) ?_ ((rdots_any g (.slice a2 m.length cap2) m W (HMS.out W (D.trans gW)) HLM.out).mono ?_)
                    · first | (go_simp; done) | (go_simp; with_reducible rfl) | (go_simp; rfl)
                    · rintro e W1 ⟨v', rfl, o', g'⟩
                      exact ⟨_, rfl, g', fun W2 g2 => ⟨v', rfl, o'.sl.keepF g2⟩⟩
                  try simp only [Act.put, List.setIfInBounds_toArray, List.set_cons_zero, List.set_cons_succ]
                  refine RelO.next (k' := 3) rfl (fun W gW hF => ?_) ?_
                  focus
                    refine OpOK.val (u := .pointer (some ⟨N, 8, none⟩)) (by rfl) ?_ (fun W' _ => rfl)
                    try simp only [tupAt]
                    first | (go_simp; done) | (go_simp; with_reducible rfl) | (go_simp; rfl)
                  try simp only [Act.put, List.setIfInBounds_toArray, List.set_cons_zero, List.set_cons_succ]
                  refine RelO.next (k' := 4) rfl (fun W gW hF => ?_) ?_
                  focus
                    obtain ⟨h2, _⟩ := hF
                    have e2 : val 2 = .pointer (some ⟨N, 8, none⟩) := h2 _ (Frm.refl _ W)
                    try simp only [e2]
                    try simp only [tupAt]
                    have c8 := (HB.out W (D.trans gW)).cell 8 rfl
                    have a3 := Try.isAgg45
                    have z3 := Try.sizeOf45
                    exact OpOK.val (u := .slice (some ⟨c, off, none⟩) l.length cap1) (by rfl) (by first | (go_simp; done) | (go_simp; with_reducible rfl) | (go_simp; rfl)) (fun W' _ => rfl)
                  try simp only [Act.put, List.setIfInBounds_toArray, List.set_cons_zero, List.set_cons_succ]
                  refine RelO.next (k' := 5) rfl (fun W gW hF => ?_) ?_
                  focus
                    refine OpOK.val (u := .int .i64 (k : Int)) (by rfl) ?_ (fun W' _ => rfl)
                    try simp only [tupAt]
                    first | (go_simp; done) | (go_simp; with_reducible rfl) | (go_simp; rfl)
                  try simp only [Act.put, List.setIfInBounds_toArray, List.set_cons_zero, List.set_cons_succ]
                  refine RelO.next (k' := 6) rfl (fun W gW hF => ?_) ?_
                  focus
                    obtain ⟨h3, h4, _⟩ := hF
                    have e3 : val 3 = .slice (some ⟨c, off, none⟩) l.length cap1 := h3 _ (Frm.refl _ W)
                    have e4 : val 4 = .int .i64 (k : Int) := h4 _ (Frm.refl _ W)
                    try simp only [e4]
                    try simp only [e3]
                    try simp only [tupAt]
                    refine OpOK.val (u := .pointer (some ⟨c, off + k * 3, none⟩)) (by rfl) ?_ (fun W' _ => rfl)
                    try simp only [e4]
                    try simp only [e3]
                    try simp only [tupAt]
                    first | (go_simp; done) | (go_simp; with_reducible rfl) | (go_simp; rfl)
                  try simp only [Act.put, List.setIfInBounds_toArray, List.set_cons_zero, List.set_cons_succ]
                  refine RelO.next (k' := 7) rfl (fun W gW hF => ?_) ?_
                  focus
                    obtain ⟨h5, _⟩ := hF
                    have e5 : val 5 = .pointer (some ⟨c, off + k * 3, none⟩) := h5 _ (Frm.refl _ W)
                    try simp only [e5]
                    try simp only [tupAt]
                    refine OpOK.val (u := .pointer (some ⟨c, off + k * 3, none⟩)) (by rfl) ?_ (fun W' _ => rfl)
                    try simp only [e5]
                    try simp only [tupAt]
                    first | (go_simp; done) | (go_simp; with_reducible rfl) | (go_simp; rfl)
                  try simp only [Act.put, List.setIfInBounds_toArray, List.set_cons_zero, List.set_cons_succ]
                  refine RelO.next (k' := 8) rfl (fun W gW hF => ?_) ?_
                  focus
                    obtain ⟨h6, _⟩ := hF
                    have e6 : val 6 = .pointer (some ⟨c, off + k * 3, none⟩) := h6 _ (Frm.refl _ W)
                    try simp only [e6]
                    try simp only [tupAt]
                    obtain ⟨x0, x1, x2⟩ := HX.out W (D.trans gW)
                    exact OpOK.val (u := .agg (dv x.r x.n)) (by rfl) (by first | (go_simp; done) | (go_simp; with_reducible rfl) | (go_simp; rfl)) (fun W' _ => rfl)
                  try simp only [Act.put, List.setIfInBounds_toArray, List.set_cons_zero, List.set_cons_succ]
                  refine RelO.next (k' := 9) rfl (fun W gW hF => ?_) ?_
                  focus
                    obtain ⟨h1, h7, _⟩ := hF
                    have q1 : ∃ z, (val 1) = z ∧ DL W z (m.map SibI.d) := h1 _ (Frm.refl _ W)
                    obtain ⟨x50, e1, o50⟩ := q1
                    have e7 : val 7 = .agg (dv x.r x.n) := h7 _ (Frm.refl _ W)
                    try simp only [e7]
                    try simp only [e1]
                    try simp only [tupAt]
                    refine OpOK.call (by rfl) ?_ ((rin_any x50 (m.map SibI.d) x.d W o50).mono ?_)
                    · go_simp
                      exact ⟨rfl, rfl⟩
                    · rintro e W1 ⟨he, g1⟩
                      rw [HQ1.out] at he
                      subst he
                      exact ⟨_, rfl, g1, fun W2 _ => rfl⟩
                  try simp only [Act.put, List.setIfInBounds_toArray, List.set_cons_zero, List.set_cons_succ]
                  refine RelO.next (k' := 10) rfl (fun W gW hF => ?_) ?_
                  focus
                    obtain ⟨h8, _⟩ := hF
                    have e8 : val 8 = .bool true := h8 _ (Frm.refl _ W)
                    try simp only [e8]
                    try simp only [tupAt]
                    refine OpOK.val (u := .bool true) (by rfl) ?_ (fun W' _ => rfl)
                    try simp only [e8]
                    try simp only [tupAt]
                    first | (go_simp; done) | (go_simp; with_reducible rfl) | (go_simp; rfl)
                  try simp only [Act.put, List.setIfInBounds_toArray, List.set_cons_zero, List.set_cons_succ]
                  refine RelO.next (k' := 11) rfl (fun W gW hF => ?_) ?_
                  focus
                    obtain ⟨h9, _⟩ := hF
                    have e9 : val 9 = .bool true := h9 _ (Frm.refl _ W)
                    try simp only [e9]
                    try simp only [tupAt]
                    exact OpOK.skip (by rfl) (fun W' _ => rfl)
                  try simp only [Act.put, List.setIfInBounds_toArray, List.set_cons_zero, List.set_cons_succ]
                  refine RelO.next (k' := 12) rfl (fun W gW hF => ?_) ?_
                  focus
                    obtain ⟨h9, h10, _⟩ := hF
                    have e9 : val 9 = .bool true := h9 _ (Frm.refl _ W)
                    have e10 : val 10 = undef := h10 _ (Frm.refl _ W)
                    try simp only [e10]
                    try simp only [e9]
                    try simp only [tupAt]
                    exact OpOK.skip (by rfl) (fun W' _ => rfl)
                  try simp only [Act.put, List.setIfInBounds_toArray, List.set_cons_zero, List.set_cons_succ]
                  refine RelO.next (k' := 13) rfl (fun W gW hF => ?_) ?_
                  focus
                    obtain ⟨h9, _⟩ := hF
                    have e9 : val 9 = .bool true := h9 _ (Frm.refl _ W)
                    try simp only [e9]
                    try simp only [tupAt]
                    exact OpOK.skip (by rfl) (fun W' _ => rfl)
                  try simp only [Act.put, List.setIfInBounds_toArray, List.set_cons_zero, List.set_cons_succ]
                  refine RelO.next (k' := 14) rfl (fun W gW hF => ?_) ?_
                  focus
                    obtain ⟨h9, h12, _⟩ := hF
                    have e9 : val 9 = .bool true := h9 _ (Frm.refl _ W)
                    have e12 : val 12 = undef := h12 _ (Frm.refl _ W)
                    try simp only [e12]
                    try simp only [e9]
                    try simp only [tupAt]
                    exact OpOK.skip (by rfl) (fun W' _ => rfl)
                  try simp only [Act.put, List.setIfInBounds_toArray, List.set_cons_zero, List.set_cons_succ]
                  refine RelO.next (k' := 15) rfl (fun W gW hF => ?_) ?_
                  focus
                    obtain ⟨h9, _⟩ := hF
                    have e9 : val 9 = .bool true := h9 _ (Frm.refl _ W)
                    try simp only [e9]
                    try simp only [tupAt]
                    exact OpOK.skip (by rfl) (fun W' _ => rfl)
                  try simp only [Act.put, List.setIfInBounds_toArray, List.set_cons_zero, List.set_cons_succ]
                  refine RelO.next (k' := 16) rfl (fun W gW hF => ?_) ?_
                  focus
                    obtain ⟨h9, h13, h14, _⟩ := hF
                    have e9 : val 9 = .bool true := h9 _ (Frm.refl _ W)
                    have e13 : val 13 = undef := h13 _ (Frm.refl _ W)
                    have e14 : val 14 = undef := h14 _ (Frm.refl _ W)
                    try simp only [e14]
                    try simp only [e13]
                    try simp only [e9]
                    try simp only [tupAt]
                    exact OpOK.skip (by rfl) (fun W' _ => rfl)
                  try simp only [Act.put, List.setIfInBounds_toArray, List.set_cons_zero, List.set_cons_succ]
                  refine RelO.next (k' := 17) rfl (fun W gW hF => ?_) ?_
                  focus
                    obtain ⟨h9, h15, _⟩ := hF
                    have e9 : val 9 = .bool true := h9 _ (Frm.refl _ W)
                    have e15 : val 15 = undef := h15 _ (Frm.refl _ W)
                    try simp only [e15]
                    try simp only [e9]
                    try simp only [tupAt]
                    exact OpOK.skip (by rfl) (fun W' _ => rfl)
                  try simp only [Act.put, List.setIfInBounds_toArray, List.set_cons_zero, List.set_cons_succ]
                  refine RelO.next (k' := 18) rfl (fun W gW hF => ?_) ?_
                  focus
                    obtain ⟨h9, h16, _⟩ := hF
                    have e9 : val 9 = .bool true := h9 _ (Frm.refl _ W)
                    have e16 : val 16 = undef := h16 _ (Frm.refl _ W)
                    try simp only [e16]
                    try simp only [e9]
                    try simp only [tupAt]
                    exact OpOK.skip (by rfl) (fun W' _ => rfl)
                  try simp only [Act.put, List.setIfInBounds_toArray, List.set_cons_zero, List.set_cons_succ]
                  refine RelO.next (k' := 19) rfl (fun W gW hF => ?_) ?_
                  focus
                    obtain ⟨h9, h11, h17, _⟩ := hF
                    have e9 : val 9 = .bool true := h9 _ (Frm.refl _ W)
                    have e11 : val 11 = undef := h11 _ (Frm.refl _ W)
                    have e17 : val 17 = undef := h17 _ (Frm.refl _ W)
                    try simp only [e17]
                    try simp only [e11]
                    try simp only [e9]
                    try simp only [tupAt]
                    exact OpOK.skip (by rfl) (fun W' _ => rfl)
                  try simp only [Act.put, List.setIfInBounds_toArray, List.set_cons_zero, List.set_cons_succ]
                  refine RelO.next (k' := 20) rfl (fun W gW hF => ?_) ?_
                  focus
                    obtain ⟨h9, h18, _⟩ := hF
                    have e9 : val 9 = .bool true := h9 _ (Frm.refl _ W)
                    have e18 : val 18 = undef := h18 _ (Frm.refl _ W)
                    try simp only [e18]
                    try simp only [e9]
                    try simp only [tupAt]
                    exact OpOK.skip (by rfl) (fun W' _ => rfl)
                  try simp only [Act.put, List.setIfInBounds_toArray, List.set_cons_zero, List.set_cons_succ]
                  refine RelO.next (k' := 21) rfl (fun W gW hF => ?_) ?_
                  focus
                    obtain ⟨h9, h19, _⟩ := hF
                    have e9 : val 9 = .bool true := h9 _ (Frm.refl _ W)
                    have e19 : val 19 = undef := h19 _ (Frm.refl _ W)
                    try simp only [e19]
                    try simp only [e9]
                    try simp only [tupAt]
                    refine OpOK.val (u := .bool true) (by rfl) ?_ (fun W' _ => rfl)
                    try simp only [e19]
                    try simp only [e9]
                    try simp only [tupAt]
                    first | (go_simp; done) | (go_simp; with_reducible rfl) | (go_simp; rfl)
                  try simp only [Act.put, List.setIfInBounds_toArray, List.set_cons_zero, List.set_cons_succ]
                  exact RelO.nil
                intro val w5 gW hF
                obtain ⟨h0, h1, h2, h3, h4, h5, h6, h7, h8, h9, h10, h11, h12, h13, h14, h15, h16, h17, h18, h19, h20, hT⟩ := hF
                have e0 : val 0 = rg g (.slice a2 m.length cap2) := h0 _ (Frm.refl _ w5)
                have q1 : ∃ z, (val 1) = z ∧ DL w5 z (m.map SibI.d) := h1 _ (Frm.refl _ w5)
                obtain ⟨x50, e1, o50⟩ := q1
                have e2 : val 2 = .pointer (some ⟨N, 8, none⟩) := h2 _ (Frm.refl _ w5)
                have e3 : val 3 = .slice (some ⟨c, off, none⟩) l.length cap1 := h3 _ (Frm.refl _ w5)
                have e4 : val 4 = .int .i64 (k : Int) := h4 _ (Frm.refl _ w5)
                have e5 : val 5 = .pointer (some ⟨c, off + k * 3, none⟩) := h5 _ (Frm.refl _ w5)
                have e6 : val 6 = .pointer (some ⟨c, off + k * 3, none⟩) := h6 _ (Frm.refl _ w5)
                have e7 : val 7 = .agg (dv x.r x.n) := h7 _ (Frm.refl _ w5)
                have e8 : val 8 = .bool true := h8 _ (Frm.refl _ w5)
                have e9 : val 9 = .bool true := h9 _ (Frm.refl _ w5)
                have e10 : val 10 = undef := h10 _ (Frm.refl _ w5)
                have e11 : val 11 = undef := h11 _ (Frm.refl _ w5)
                have e12 : val 12 = undef := h12 _ (Frm.refl _ w5)
                have e13 : val 13 = undef := h13 _ (Frm.refl _ w5)
                have e14 : val 14 = undef := h14 _ (Frm.refl _ w5)
                have e15 : val 15 = undef := h15 _ (Frm.refl _ w5)
                have e16 : val 16 = undef := h16 _ (Frm.refl _ w5)
                have e17 : val 17 = undef := h17 _ (Frm.refl _ w5)
                have e18 : val 18 = undef := h18 _ (Frm.refl _ w5)
                have e19 : val 19 = undef := h19 _ (Frm.refl _ w5)
                have e20 : val 20 = .bool true := h20 _ (Frm.refl _ w5)
                clear hT h0 h1 h2 h3 h4 h5 h6 h7 h8 h9 h10 h11 h12 h13 h14 h15 h16 h17 h18 h19 h20
                simp only [aO, Act.put, List.setIfInBounds_toArray, List.set_cons_zero, List.set_cons_succ, Nat.reduceAdd]
                try simp only [e20]
                try simp only [e19]
                try simp only [e18]
                try simp only [e17]
                try simp only [e16]
                try simp only [e15]
                try simp only [e14]
                try simp only [e13]
                try simp only [e12]
                try simp only [e11]
                try simp only [e10]
                try simp only [e9]
                try simp only [e8]
                try simp only [e7]
                try simp only [e6]
                try simp only [e5]
                try simp only [e4]
                try simp only [e3]
                try simp only [e2]
                try simp only [e1]
                try simp only [e0]
                try simp only [tupAt]
                refine wpTail.doneN ?_
                refine hK _ _ ?_
                have gD := D.trans gW
                clear gW D e0 e1 e2 e3 e4 e5 e6 e7 e8 e9 e10 e11 e12 e13 e14 e15 e16 e17 e18 e19 e20 o50
                replace HF := Lib.hid (HF.out.keep gD)
                replace HX := Hid.grow HX gD
                replace HB := Hid.grow HB gD
                go_upto_region 13 with fail
                rename_i hK2 K2
                have D : Frm (fun _ => False) w5 w5.drew := (Frm.refl _ _).drew
                refine wp_region_late 8 2 [] [[], [0], [], [2], [], [3, 4], [5], [1, 6]] rj13M (rj13R u lf B N c off k l.length cap1 x) (by kernel_rfl) rfl rfl rfl (by kernel_rfl) (by kernel_rfl) (by kernel_rfl) (by kernel_rfl) rfl (by kernel_rfl) (by kernel_rfl) (by kernel_rfl) (by kernel_rfl) (fun val => ?_) ?_
                · try simp only [Act.put, List.setIfInBounds_toArray, List.set_cons_zero, List.set_cons_succ]
                  refine RelO.next (k' := 1) rfl (fun W gW hF => ?_) ?_
                  focus
                    refine OpOK.val (u := .pointer (some ⟨B, 8, none⟩)) (by rfl) ?_ (fun W' _ => rfl)
                    try simp only [tupAt]
                    first | (go_simp; done) | (go_simp; with_reducible rfl) | (go_simp; rfl)
                  try simp only [Act.put, List.setIfInBounds_toArray, List.set_cons_zero, List.set_cons_succ]
                  refine RelO.next (k' := 2) rfl (fun W gW hF => ?_) ?_
                  focus
                    obtain ⟨h0, _⟩ := hF
                    have e0 : val 0 = .pointer (some ⟨B, 8, none⟩) := h0 _ (Frm.refl _ W)
                    try simp only [e0]
                    try simp only [tupAt]
                    have c8 := (HF.out.keep (D.trans gW)).blk.cell 8 rfl
                    have a3 := Try.isAgg45
                    have z3 := Try.sizeOf45
                    exact OpOK.val (u := u) (by rfl) (by first | (go_simp; done) | (go_simp; with_reducible rfl) | (go_simp; rfl)) (fun W' _ => rfl)
                  try simp only [Act.put, List.setIfInBounds_toArray, List.set_cons_zero, List.set_cons_succ]
                  refine RelO.next (k' := 3) rfl (fun W gW hF => ?_) ?_
                  focus
                    refine OpOK.val (u := .pointer (some ⟨N, 8, none⟩)) (by rfl) ?_ (fun W' _ => rfl)
                    try simp only [tupAt]
                    first | (go_simp; done) | (go_simp; with_reducible rfl) | (go_simp; rfl)
                  try simp only [Act.put, List.setIfInBounds_toArray, List.set_cons_zero, List.set_cons_succ]
                  refine RelO.next (k' := 4) rfl (fun W gW hF => ?_) ?_
                  focus
                    obtain ⟨h2, _⟩ := hF
                    have e2 : val 2 = .pointer (some ⟨N, 8, none⟩) := h2 _ (Frm.refl _ W)
                    try simp only [e2]
                    try simp only [tupAt]
                    have c8 := (HB.out W (D.trans gW)).cell 8 rfl
                    have a3 := Try.isAgg45
                    have z3 := Try.sizeOf45
                    exact OpOK.val (u := .slice (some ⟨c, off, none⟩) l.length cap1) (by rfl) (by first | (go_simp; done) | (go_simp; with_reducible rfl) | (go_simp; rfl)) (fun W' _ => rfl)
                  try simp only [Act.put, List.setIfInBounds_toArray, List.set_cons_zero, List.set_cons_succ]
                  refine RelO.next (k' := 5) rfl (fun W gW hF => ?_) ?_
                  focus
                    refine OpOK.val (u := .int .i64 (k : Int)) (by rfl) ?_ (fun W' _ => rfl)
                    try simp only [tupAt]
                    first | (go_simp; done) | (go_simp; with_reducible rfl) | (go_simp; rfl)
                  try simp only [Act.put, List.setIfInBounds_toArray, List.set_cons_zero, List.set_cons_succ]
                  refine RelO.next (k' := 6) rfl (fun W gW hF => ?_) ?_
                  focus
                    obtain ⟨h3, h4, _⟩ := hF
                    have e3 : val 3 = .slice (some ⟨c, off, none⟩) l.length cap1 := h3 _ (Frm.refl _ W)
                    have e4 : val 4 = .int .i64 (k : Int) := h4 _ (Frm.refl _ W)
                    try simp only [e4]
                    try simp only [e3]
                    try simp only [tupAt]
                    refine OpOK.val (u := .pointer (some ⟨c, off + k * 3, none⟩)) (by rfl) ?_ (fun W' _ => rfl)
                    try simp only [e4]
                    try simp only [e3]
                    try simp only [tupAt]
                    first | (go_simp; done) | (go_simp; with_reducible rfl) | (go_simp; rfl)
                  try simp only [Act.put, List.setIfInBounds_toArray, List.set_cons_zero, List.set_cons_succ]
                  refine RelO.next (k' := 7) rfl (fun W gW hF => ?_) ?_
                  focus
                    obtain ⟨h5, _⟩ := hF
                    have e5 : val 5 = .pointer (some ⟨c, off + k * 3, none⟩) := h5 _ (Frm.refl _ W)
                    try simp only [e5]
                    try simp only [tupAt]
                    obtain ⟨x0, x1, x2⟩ := HX.out W (D.trans gW)
                    exact OpOK.val (u := .agg #[.int .u8 x.r, .int .u32 x.n, .string (bs x.s)]) (by rfl) (by first | (go_simp; done) | (go_simp; with_reducible rfl) | (go_simp; rfl)) (fun W' _ => rfl)
                  try simp only [Act.put, List.setIfInBounds_toArray, List.set_cons_zero, List.set_cons_succ]
                  refine RelO.next (k' := 8) rfl (fun W gW hF => ?_) ?_
                  focus
                    obtain ⟨h1, h6, _⟩ := hF
                    have e1 : val 1 = u := h1 _ (Frm.refl _ W)
                    have e6 : val 6 = .agg #[.int .u8 x.r, .int .u32 x.n, .string (bs x.s)] := h6 _ (Frm.refl _ W)
                    try simp only [e6]
                    try simp only [e1]
                    try simp only [tupAt]
                    have hBW := (HF.out.keep (D.trans gW)).blk.lt
                    refine OpOK.call (by rfl) ?_ ((rput_any u lf x W (HF.out.keep (D.trans gW)).own.sl (by omega)).mono ?_)
                    · first | (go_simp; done) | (go_simp; with_reducible rfl) | (go_simp; rfl)
                    · rintro e W1 ⟨v', rfl, o', g', n'⟩
                      exact ⟨_, rfl, g', fun W2 g2 => ⟨v', rfl, o'.keep g2 (fun _ _ h => h), fun g e => Nat.lt_of_lt_of_le hBW (n' g e)⟩⟩
                  try simp only [Act.put, List.setIfInBounds_toArray, List.set_cons_zero, List.set_cons_succ]
                  exact RelO.nil
                intro val w6 gW hF
                obtain ⟨h0, h1, h2, h3, h4, h5, h6, h7, hT⟩ := hF
                have e0 : val 0 = .pointer (some ⟨B, 8, none⟩) := h0 _ (Frm.refl _ w6)
                have e1 : val 1 = u := h1 _ (Frm.refl _ w6)
                have e2 : val 2 = .pointer (some ⟨N, 8, none⟩) := h2 _ (Frm.refl _ w6)
                have e3 : val 3 = .slice (some ⟨c, off, none⟩) l.length cap1 := h3 _ (Frm.refl _ w6)
                have e4 : val 4 = .int .i64 (k : Int) := h4 _ (Frm.refl _ w6)
                have e5 : val 5 = .pointer (some ⟨c, off + k * 3, none⟩) := h5 _ (Frm.refl _ w6)
                have e6 : val 6 = .agg #[.int .u8 x.r, .int .u32 x.n, .string (bs x.s)] := h6 _ (Frm.refl _ w6)
                have q7 : ∃ z, (val 7) = z ∧ OwnL w6 z (putL lf x) ∧ ∀ g, z.ownBlock = some g → B < g := h7 _ (Frm.refl _ w6)
                obtain ⟨xp, e7, op, np⟩ := q7
                clear hT h0 h1 h2 h3 h4 h5 h6 h7
                simp only [aO, Act.put, List.setIfInBounds_toArray, List.set_cons_zero, List.set_cons_succ, Nat.reduceAdd]
                try simp only [e7]
                try simp only [e6]
                try simp only [e5]
                try simp only [e4]
                try simp only [e3]
                try simp only [e2]
                try simp only [e1]
                try simp only [e0]
                try simp only [tupAt]
                obtain ⟨ap, cp, rfl, _, _⟩ := Row.slice op
                refine tail_setR (w0 := w2) B (jn8 f g) lf (putL lf x) u _ _ _ rfl rfl rfl rfl rfl rfl rfl (HF.out.keep (D.trans gW)) op np (fun W' => ?_) rfl rfl ?_
                · first | (go_simp; done) | (go_simp; with_reducible rfl) | (go_simp; rfl)
                intro w7 F2
                try simp only [Act.put, List.setIfInBounds_toArray, List.set_cons_zero, List.set_cons_succ]
                refine hK2 _ _ ?_
                rw [← HNX.out] at F2
                clear gW D op np HF HX HB e0 e1 e2 e3 e4 e5 e6 e7
                go_wp2_with fail
                go_roundw
                case rel => exact ⟨k + 1, _, by omega, by go_num, F2⟩
                case measure => simp [intOf]; omega
              | false =>
                have HQ1 := Lib.hid hq1
                rw [hq1, Bool.false_or] at hTK
                clear HTK hq1
                obtain ⟨q, hq2⟩ : ∃ q, has8 g x.r x.n = q := ⟨_, rfl⟩
                have HQ2 := Lib.hid hq2
                rw [hq2] at hTK
                have HTK2 := Lib.hid hTK
                clear hTK hq2
                go_upto_region 12 with fail
                rename_i hK
                clear c8
                have D : Frm (fun _ => False) wr wr.drew := (Frm.refl _ _).drew
                refine wp_region_late 21 0 [] [[], [0], [], [2], [], [3, 4], [5], [6], [1, 7], [8], [9], [9, 10], [9], [9, 12], [9], [9, 13, 14], [9, 15], [9, 16], [9, 11, 17], [9, 18], [9, 19]] rj12bM (rj12bR g (.slice a2 m.length cap2) m N M c off k l.length cap1 x q) (by kernel_rfl) rfl rfl rfl (by kernel_rfl) (by kernel_rfl) (by kernel_rfl) (by kernel_rfl) rfl (by kernel_rfl) (by kernel_rfl) (by kernel_rfl) (by kernel_rfl) (fun val => ?_) ?_
                · try dsimp only
                  refine RelO.next (k' := 1) rfl (fun W gW hF => ?_) ?_
                  focus
                    exact OpOK.load (by rfl) _ rfl (by rfl) (load_rreg (HM.out W (D.trans gW))) (fun W' _ => rfl)
                  try simp only [Act.put, List.setIfInBounds_toArray, List.set_cons_zero, List.set_cons_succ]
                  refine RelO.next (k' := 2) rfl (fun W gW hF => ?_) ?_
                  focus
                    obtain ⟨h0, _⟩ := hF
                    have e0 : val 0 = rg g (.slice a2 m.length cap2) := h0 _ (Frm.refl _ W)
                    try simp only [e0]
                    try simp only [tupAt]
                    refine OpOK.call (by rfl) ?_ ((rdots_any g (.slice a2 m.length cap2) m W (HMS.out W (D.trans gW)) HLM.out).mono ?_)
                    · first | (go_simp; done) | (go_simp; with_reducible rfl) | (go_simp; rfl)
                    · rintro e W1 ⟨v', rfl, o', g'⟩
                      exact ⟨_, rfl, g', fun W2 g2 => ⟨v', rfl, o'.sl.keepF g2⟩⟩
                  try simp only [Act.put, List.setIfInBounds_toArray, List.set_cons_zero, List.set_cons_succ]
                  refine RelO.next (k' := 3) rfl (fun W gW hF => ?_) ?_
                  focus
                    refine OpOK.val (u := .pointer (some ⟨N, 8, none⟩)) (by rfl) ?_ (fun W' _ => rfl)
                    try simp only [tupAt]
                    first | (go_simp; done) | (go_simp; with_reducible rfl) | (go_simp; rfl)
                  try simp only [Act.put, List.setIfInBounds_toArray, List.set_cons_zero, List.set_cons_succ]
                  refine RelO.next (k' := 4) rfl (fun W gW hF => ?_) ?_
                  focus
                    obtain ⟨h2, _⟩ := hF
                    have e2 : val 2 = .pointer (some ⟨N, 8, none⟩) := h2 _ (Frm.refl _ W)
                    try simp only [e2]
                    try simp only [tupAt]
                    have c8 := (HB.out W (D.trans gW)).cell 8 rfl
                    have a3 := Try.isAgg45
                    have z3 := Try.sizeOf45
                    exact OpOK.val (u := .slice (some ⟨c, off, none⟩) l.length cap1) (by rfl) (by first | (go_simp; done) | (go_simp; with_reducible rfl) | (go_simp; rfl)) (fun W' _ => rfl)
                  try simp only [Act.put, List.setIfInBounds_toArray, List.set_cons_zero, List.set_cons_succ]
                  refine RelO.next (k' := 5) rfl (fun W gW hF => ?_) ?_
                  focus
                    refine OpOK.val (u := .int .i64 (k : Int)) (by rfl) ?_ (fun W' _ => rfl)
                    try simp only [tupAt]
                    first | (go_simp; done) | (go_simp; with_reducible rfl) | (go_simp; rfl)
                  try simp only [Act.put, List.setIfInBounds_toArray, List.set_cons_zero, List.set_cons_succ]
                  refine RelO.next (k' := 6) rfl (fun W gW hF => ?_) ?_
                  focus
                    obtain ⟨h3, h4, _⟩ := hF
                    have e3 : val 3 = .slice (some ⟨c, off, none⟩) l.length cap1 := h3 _ (Frm.refl _ W)
                    have e4 : val 4 = .int .i64 (k : Int) := h4 _ (Frm.refl _ W)
                    try simp only [e4]
                    try simp only [e3]
                    try simp only [tupAt]
                    refine OpOK.val (u := .pointer (some ⟨c, off + k * 3, none⟩)) (by rfl) ?_ (fun W' _ => rfl)
                    try simp only [e4]
                    try simp only [e3]
                    try simp only [tupAt]
                    first | (go_simp; done) | (go_simp; with_reducible rfl) | (go_simp; rfl)
                  try simp only [Act.put, List.setIfInBounds_toArray, List.set_cons_zero, List.set_cons_succ]
                  refine RelO.next (k' := 7) rfl (fun W gW hF => ?_) ?_
                  focus
                    obtain ⟨h5, _⟩ := hF
                    have e5 : val 5 = .pointer (some ⟨c, off + k * 3, none⟩) := h5 _ (Frm.refl _ W)
                    try simp only [e5]
                    try simp only [tupAt]
                    refine OpOK.val (u := .pointer (some ⟨c, off + k * 3, none⟩)) (by rfl) ?_ (fun W' _ => rfl)
                    try simp only [e5]
                    try simp only [tupAt]
                    first | (go_simp; done) | (go_simp; with_reducible rfl) | (go_simp; rfl)
                  try simp only [Act.put, List.setIfInBounds_toArray, List.set_cons_zero, List.set_cons_succ]
                  refine RelO.next (k' := 8) rfl (fun W gW hF => ?_) ?_
                  focus
                    obtain ⟨h6, _⟩ := hF
                    have e6 : val 6 = .pointer (some ⟨c, off + k * 3, none⟩) := h6 _ (Frm.refl _ W)
                    try simp only [e6]
                    try simp only [tupAt]
                    obtain ⟨x0, x1, x2⟩ := HX.out W (D.trans gW)
                    exact OpOK.val (u := .agg (dv x.r x.n)) (by rfl) (by first | (go_simp; done) | (go_simp; with_reducible rfl) | (go_simp; rfl)) (fun W' _ => rfl)
                  try simp only [Act.put, List.setIfInBounds_toArray, List.set_cons_zero, List.set_cons_succ]
                  refine RelO.next (k' := 9) rfl (fun W gW hF => ?_) ?_
                  focus
                    obtain ⟨h1, h7, _⟩ := hF
                    have q1 : ∃ z, (val 1) = z ∧ DL W z (m.map SibI.d) := h1 _ (Frm.refl _ W)
                    obtain ⟨x50, e1, o50⟩ := q1
                    have e7 : val 7 = .agg (dv x.r x.n) := h7 _ (Frm.refl _ W)
                    try simp only [e7]
                    try simp only [e1]
                    try simp only [tupAt]
                    refine OpOK.call (by rfl) ?_ ((rin_any x50 (m.map SibI.d) x.d W o50).mono ?_)
                    · go_simp
                      exact ⟨rfl, rfl⟩
                    · rintro e W1 ⟨he, g1⟩
                      rw [HQ1.out] at he
                      subst he
                      exact ⟨_, rfl, g1, fun W2 _ => rfl⟩
                  try simp only [Act.put, List.setIfInBounds_toArray, List.set_cons_zero, List.set_cons_succ]
                  refine RelO.next (k' := 10) rfl (fun W gW hF => ?_) ?_
                  focus
                    obtain ⟨h8, _⟩ := hF
                    have e8 : val 8 = .bool false := h8 _ (Frm.refl _ W)
                    try simp only [e8]
                    try simp only [tupAt]
                    refine OpOK.val (u := .bool false) (by rfl) ?_ (fun W' _ => rfl)
                    try simp only [e8]
                    try simp only [tupAt]
                    first | (go_simp; done) | (go_simp; with_reducible rfl) | (go_simp; rfl)
                  try simp only [Act.put, List.setIfInBounds_toArray, List.set_cons_zero, List.set_cons_succ]
                  refine RelO.next (k' := 11) rfl (fun W gW hF => ?_) ?_
                  focus
                    obtain ⟨h9, _⟩ := hF
                    have e9 : val 9 = .bool false := h9 _ (Frm.refl _ W)
                    try simp only [e9]
                    try simp only [tupAt]
                    refine OpOK.val (u := .pointer (some ⟨M, 0, none⟩)) (by rfl) ?_ (fun W' _ => rfl)
                    try simp only [e9]
                    try simp only [tupAt]
                    first | (go_simp; done) | (go_simp; with_reducible rfl) | (go_simp; rfl)
                  try simp only [Act.put, List.setIfInBounds_toArray, List.set_cons_zero, List.set_cons_succ]
                  refine RelO.next (k' := 12) rfl (fun W gW hF => ?_) ?_
                  focus
                    obtain ⟨h9, h10, _⟩ := hF
                    have e9 : val 9 = .bool false := h9 _ (Frm.refl _ W)
                    have e10 : val 10 = .pointer (some ⟨M, 0, none⟩) := h10 _ (Frm.refl _ W)
                    try simp only [e10]
                    try simp only [e9]
                    try simp only [tupAt]
                    exact OpOK.load (by rfl) _ rfl (by rfl) (load_rctx (HM.out W (D.trans gW))) (fun W' _ => rfl)
                  try simp only [Act.put, List.setIfInBounds_toArray, List.set_cons_zero, List.set_cons_succ]
                  refine RelO.next (k' := 13) rfl (fun W gW hF => ?_) ?_
                  focus
                    obtain ⟨h9, _⟩ := hF
                    have e9 : val 9 = .bool false := h9 _ (Frm.refl _ W)
                    try simp only [e9]
                    try simp only [tupAt]
                    refine OpOK.val (u := .pointer (some ⟨N, 8, none⟩)) (by rfl) ?_ (fun W' _ => rfl)
                    try simp only [e9]
                    try simp only [tupAt]
                    first | (go_simp; done) | (go_simp; with_reducible rfl) | (go_simp; rfl)
                  try simp only [Act.put, List.setIfInBounds_toArray, List.set_cons_zero, List.set_cons_succ]
                  refine RelO.next (k' := 14) rfl (fun W gW hF => ?_) ?_
                  focus
                    obtain ⟨h9, h12, _⟩ := hF
                    have e9 : val 9 = .bool false := h9 _ (Frm.refl _ W)
                    have e12 : val 12 = .pointer (some ⟨N, 8, none⟩) := h12 _ (Frm.refl _ W)
                    try simp only [e12]
                    try simp only [e9]
                    try simp only [tupAt]
                    have c8 := (HB.out W (D.trans gW)).cell 8 rfl
                    have a3 := Try.isAgg45
                    have z3 := Try.sizeOf45
                    exact OpOK.val (u := .slice (some ⟨c, off, none⟩) l.length cap1) (by rfl) (by first | (go_simp; done) | (go_simp; with_reducible rfl) | (go_simp; rfl)) (fun W' _ => rfl)
                  try simp only [Act.put, List.setIfInBounds_toArray, List.set_cons_zero, List.set_cons_succ]
                  refine RelO.next (k' := 15) rfl (fun W gW hF => ?_) ?_
                  focus
                    obtain ⟨h9, _⟩ := hF
                    have e9 : val 9 = .bool false := h9 _ (Frm.refl _ W)
                    try simp only [e9]
                    try simp only [tupAt]
                    refine OpOK.val (u := .int .i64 (k : Int)) (by rfl) ?_ (fun W' _ => rfl)
                    try simp only [e9]
                    try simp only [tupAt]
                    first | (go_simp; done) | (go_simp; with_reducible rfl) | (go_simp; rfl)
                  try simp only [Act.put, List.setIfInBounds_toArray, List.set_cons_zero, List.set_cons_succ]
                  refine RelO.next (k' := 16) rfl (fun W gW hF => ?_) ?_
                  focus
                    obtain ⟨h9, h13, h14, _⟩ := hF
                    have e9 : val 9 = .bool false := h9 _ (Frm.refl _ W)
                    have e13 : val 13 = .slice (some ⟨c, off, none⟩) l.length cap1 := h13 _ (Frm.refl _ W)
                    have e14 : val 14 = .int .i64 (k : Int) := h14 _ (Frm.refl _ W)
                    try simp only [e14]
                    try simp only [e13]
                    try simp only [e9]
                    try simp only [tupAt]
                    refine OpOK.val (u := .pointer (some ⟨c, off + k * 3, none⟩)) (by rfl) ?_ (fun W' _ => rfl)
                    try simp only [e14]
                    try simp only [e13]
                    try simp only [e9]
                    try simp only [tupAt]
                    first | (go_simp; done) | (go_simp; with_reducible rfl) | (go_simp; rfl)
                  try simp only [Act.put, List.setIfInBounds_toArray, List.set_cons_zero, List.set_cons_succ]
                  refine RelO.next (k' := 17) rfl (fun W gW hF => ?_) ?_
                  focus
                    obtain ⟨h9, h15, _⟩ := hF
                    have e9 : val 9 = .bool false := h9 _ (Frm.refl _ W)
                    have e15 : val 15 = .pointer (some ⟨c, off + k * 3, none⟩) := h15 _ (Frm.refl _ W)
                    try simp only [e15]
                    try simp only [e9]
                    try simp only [tupAt]
                    refine OpOK.val (u := .pointer (some ⟨c, off + k * 3, none⟩)) (by rfl) ?_ (fun W' _ => rfl)
                    try simp only [e15]
                    try simp only [e9]
                    try simp only [tupAt]
                    first | (go_simp; done) | (go_simp; with_reducible rfl) | (go_simp; rfl)
                  try simp only [Act.put, List.setIfInBounds_toArray, List.set_cons_zero, List.set_cons_succ]
                  refine RelO.next (k' := 18) rfl (fun W gW hF => ?_) ?_
                  focus
                    obtain ⟨h9, h16, _⟩ := hF
                    have e9 : val 9 = .bool false := h9 _ (Frm.refl _ W)
                    have e16 : val 16 = .pointer (some ⟨c, off + k * 3, none⟩) := h16 _ (Frm.refl _ W)
                    try simp only [e16]
                    try simp only [e9]
                    try simp only [tupAt]
                    obtain ⟨x0, x1, x2⟩ := HX.out W (D.trans gW)
                    exact OpOK.val (u := .agg (dv x.r x.n)) (by rfl) (by first | (go_simp; done) | (go_simp; with_reducible rfl) | (go_simp; rfl)) (fun W' _ => rfl)
                  try simp only [Act.put, List.setIfInBounds_toArray, List.set_cons_zero, List.set_cons_succ]
                  refine RelO.next (k' := 19) rfl (fun W gW hF => ?_) ?_
                  focus
                    obtain ⟨h9, h11, h17, _⟩ := hF
                    have e9 : val 9 = .bool false := h9 _ (Frm.refl _ W)
                    have e11 : val 11 = .agg (vv g) := h11 _ (Frm.refl _ W)
                    have e17 : val 17 = .agg (dv x.r x.n) := h17 _ (Frm.refl _ W)
                    try simp only [e17]
                    try simp only [e11]
                    try simp only [e9]
                    try simp only [tupAt]
                    refine OpOK.call (by rfl) ?_ ((rhas6_any g x.r x.n W).mono ?_)
                    · first | (go_simp; done) | (go_simp; with_reducible rfl) | (go_simp; rfl)
                    · rintro e W1 ⟨he, g1⟩
                      rw [HQ2.out] at he
                      subst he
                      exact ⟨_, rfl, g1, fun W2 _ => rfl⟩
                  try simp only [Act.put, List.setIfInBounds_toArray, List.set_cons_zero, List.set_cons_succ]
                  refine RelO.next (k' := 20) rfl (fun W gW hF => ?_) ?_
                  focus
                    obtain ⟨h9, h18, _⟩ := hF
                    have e9 : val 9 = .bool false := h9 _ (Frm.refl _ W)
                    have e18 : val 18 = .bool q := h18 _ (Frm.refl _ W)
                    try simp only [e18]
                    try simp only [e9]
                    try simp only [tupAt]
                    refine OpOK.val (u := .bool (!q)) (by rfl) ?_ (fun W' _ => rfl)
                    try simp only [e18]
                    try simp only [e9]
                    try simp only [tupAt]
                    first | (go_simp; done) | (go_simp; with_reducible rfl) | (go_simp; rfl)
                  try simp only [Act.put, List.setIfInBounds_toArray, List.set_cons_zero, List.set_cons_succ]
                  refine RelO.next (k' := 21) rfl (fun W gW hF => ?_) ?_
                  focus
                    obtain ⟨h9, h19, _⟩ := hF
                    have e9 : val 9 = .bool false := h9 _ (Frm.refl _ W)
                    have e19 : val 19 = .bool (!q) := h19 _ (Frm.refl _ W)
                    try simp only [e19]
                    try simp only [e9]
                    try simp only [tupAt]
                    refine OpOK.val (u := .bool (!q)) (by rfl) ?_ (fun W' _ => rfl)
                    try simp only [e19]
                    try simp only [e9]
                    try simp only [tupAt]
                    first | (go_simp; done) | (go_simp; with_reducible rfl) | (go_simp; rfl)
                  try simp only [Act.put, List.setIfInBounds_toArray, List.set_cons_zero, List.set_cons_succ]
                  exact RelO.nil
                intro val w5 gW hF
                obtain ⟨h0, h1, h2, h3, h4, h5, h6, h7, h8, h9, h10, h11, h12, h13, h14, h15, h16, h17, h18, h19, h20, hT⟩ := hF
                have e0 : val 0 = rg g (.slice a2 m.length cap2) := h0 _ (Frm.refl _ w5)
                have q1 : ∃ z, (val 1) = z ∧ DL w5 z (m.map SibI.d) := h1 _ (Frm.refl _ w5)
                obtain ⟨x50, e1, o50⟩ := q1
                have e2 : val 2 = .pointer (some ⟨N, 8, none⟩) := h2 _ (Frm.refl _ w5)
                have e3 : val 3 = .slice (some ⟨c, off, none⟩) l.length cap1 := h3 _ (Frm.refl _ w5)
                have e4 : val 4 = .int .i64 (k : Int) := h4 _ (Frm.refl _ w5)
                have e5 : val 5 = .pointer (some ⟨c, off + k * 3, none⟩) := h5 _ (Frm.refl _ w5)
                have e6 : val 6 = .pointer (some ⟨c, off + k * 3, none⟩) := h6 _ (Frm.refl _ w5)
                have e7 : val 7 = .agg (dv x.r x.n) := h7 _ (Frm.refl _ w5)
                have e8 : val 8 = .bool false := h8 _ (Frm.refl _ w5)
                have e9 : val 9 = .bool false := h9 _ (Frm.refl _ w5)
                have e10 : val 10 = .pointer (some ⟨M, 0, none⟩) := h10 _ (Frm.refl _ w5)
                have e11 : val 11 = .agg (vv g) := h11 _ (Frm.refl _ w5)
                have e12 : val 12 = .pointer (some ⟨N, 8, none⟩) := h12 _ (Frm.refl _ w5)
                have e13 : val 13 = .slice (some ⟨c, off, none⟩) l.length cap1 := h13 _ (Frm.refl _ w5)
                have e14 : val 14 = .int .i64 (k : Int) := h14 _ (Frm.refl _ w5)
                have e15 : val 15 = .pointer (some ⟨c, off + k * 3, none⟩) := h15 _ (Frm.refl _ w5)
                have e16 : val 16 = .pointer (some ⟨c, off + k * 3, none⟩) := h16 _ (Frm.refl _ w5)
                have e17 : val 17 = .agg (dv x.r x.n) := h17 _ (Frm.refl _ w5)
                have e18 : val 18 = .bool q := h18 _ (Frm.refl _ w5)
                have e19 : val 19 = .bool (!q) := h19 _ (Frm.refl _ w5)
                have e20 : val 20 = .bool (!q) := h20 _ (Frm.refl _ w5)
                clear hT h0 h1 h2 h3 h4 h5 h6 h7 h8 h9 h10 h11 h12 h13 h14 h15 h16 h17 h18 h19 h20
                simp only [aO, Act.put, List.setIfInBounds_toArray, List.set_cons_zero, List.set_cons_succ, Nat.reduceAdd]
                try simp only [e20]
                try simp only [e19]
                try simp only [e18]
                try simp only [e17]
                try simp only [e16]
                try simp only [e15]
                try simp only [e14]
                try simp only [e13]
                try simp only [e12]
                try simp only [e11]
                try simp only [e10]
                try simp only [e9]
                try simp only [e8]
                try simp only [e7]
                try simp only [e6]
                try simp only [e5]
                try simp only [e4]
                try simp only [e3]
                try simp only [e2]
                try simp only [e1]
                try simp only [e0]
                try simp only [tupAt]
                refine wpTail.doneN ?_
                refine hK _ _ ?_
                have gD := D.trans gW
                clear gW D e0 e1 e2 e3 e4 e5 e6 e7 e8 e9 e10 e11 e12 e13 e14 e15 e16 e17 e18 e19 e20 o50
                replace HF := Lib.hid (HF.out.keep gD)
                replace HX := Hid.grow HX gD
                replace HB := Hid.grow HB gD
                cases q with
                | true =>
                  try simp only [Bool.not_true]
                  have HNX := Lib.hid (HTK2.out.trans (if_neg (by decide)))
                  clear HTK2
                  go_wp2_with fail
                  go_roundw
                  case rel => exact ⟨k + 1, u, by omega, by go_num, by rw [HNX.out]; exact HF.out⟩
                  case measure => simp [intOf]; omega
                | false =>
                  try simp only [Bool.not_false]
                  have HNX := Lib.hid (HTK2.out.trans (if_pos rfl))
                  clear HTK2
                  go_upto_region 13 with fail
                  rename_i hK2 K2
                  have D : Frm (fun _ => False) w5 w5.drew := (Frm.refl _ _).drew
                  refine wp_region_late 8 2 [] [[], [0], [], [2], [], [3, 4], [5], [1, 6]] rj13M (rj13R u lf B N c off k l.length cap1 x) (by kernel_rfl) rfl rfl rfl (by kernel_rfl) (by kernel_rfl) (by kernel_rfl) (by kernel_rfl) rfl (by kernel_rfl) (by kernel_rfl) (by kernel_rfl) (by kernel_rfl) (fun val => ?_) ?_
                  · try simp only [Act.put, List.setIfInBounds_toArray, List.set_cons_zero, List.set_cons_succ]
                    refine RelO.next (k' := 1) rfl (fun W gW hF => ?_) ?_
                    focus
                      refine OpOK.val (u := .pointer (some ⟨B, 8, none⟩)) (by rfl) ?_ (fun W' _ => rfl)
                      try simp only [tupAt]
                      first | (go_simp; done) | (go_simp; with_reducible rfl) | (go_simp; rfl)
                    try simp only [Act.put, List.setIfInBounds_toArray, List.set_cons_zero, List.set_cons_succ]
                    refine RelO.next (k' := 2) rfl (fun W gW hF => ?_) ?_
                    focus
                      obtain ⟨h0, _⟩ := hF
                      have e0 : val 0 = .pointer (some ⟨B, 8, none⟩) := h0 _ (Frm.refl _ W)
                      try simp only [e0]
                      try simp only [tupAt]
                      have c8 := (HF.out.keep (D.trans gW)).blk.cell 8 rfl
                      have a3 := Try.isAgg45
                      have z3 := Try.sizeOf45
                      exact OpOK.val (u := u) (by rfl) (by first | (go_simp; done) | (go_simp; with_reducible rfl) | (go_simp; rfl)) (fun W' _ => rfl)
                    try simp only [Act.put, List.setIfInBounds_toArray, List.set_cons_zero, List.set_cons_succ]
                    refine RelO.next (k' := 3) rfl (fun W gW hF => ?_) ?_
                    focus
                      refine OpOK.val (u := .pointer (some ⟨N, 8, none⟩)) (by rfl) ?_ (fun W' _ => rfl)
                      try simp only [tupAt]
                      first | (go_simp; done) | (go_simp; with_reducible rfl) | (go_simp; rfl)
                    try simp only [Act.put, List.setIfInBounds_toArray, List.set_cons_zero, List.set_cons_succ]
                    refine RelO.next (k' := 4) rfl (fun W gW hF => ?_) ?_
                    focus
                      obtain ⟨h2, _⟩ := hF
                      have e2 : val 2 = .pointer (some ⟨N, 8, none⟩) := h2 _ (Frm.refl _ W)
                      try simp only [e2]
                      try simp only [tupAt]
                      have c8 := (HB.out W (D.trans gW)).cell 8 rfl
                      have a3 := Try.isAgg45
                      have z3 := Try.sizeOf45
                      exact OpOK.val (u := .slice (some ⟨c, off, none⟩) l.length cap1) (by rfl) (by first | (go_simp; done) | (go_simp; with_reducible rfl) | (go_simp; rfl)) (fun W' _ => rfl)
                    try simp only [Act.put, List.setIfInBounds_toArray, List.set_cons_zero, List.set_cons_succ]
                    refine RelO.next (k' := 5) rfl (fun W gW hF => ?_) ?_
                    focus
                      refine OpOK.val (u := .int .i64 (k : Int)) (by rfl) ?_ (fun W' _ => rfl)
                      try simp only [tupAt]
                      first | (go_simp; done) | (go_simp; with_reducible rfl) | (go_simp; rfl)
                    try simp only [Act.put, List.setIfInBounds_toArray, List.set_cons_zero, List.set_cons_succ]
                    refine RelO.next (k' := 6) rfl (fun W gW hF => ?_) ?_
                    focus
                      obtain ⟨h3, h4, _⟩ := hF
                      have e3 : val 3 = .slice (some ⟨c, off, none⟩) l.length cap1 := h3 _ (Frm.refl _ W)
                      have e4 : val 4 = .int .i64 (k : Int) := h4 _ (Frm.refl _ W)
                      try simp only [e4]
                      try simp only [e3]
                      try simp only [tupAt]
                      refine OpOK.val (u := .pointer (some ⟨c, off + k * 3, none⟩)) (by rfl) ?_ (fun W' _ => rfl)
                      try simp only [e4]
                      try simp only [e3]
                      try simp only [tupAt]
                      first | (go_simp; done) | (go_simp; with_reducible rfl) | (go_simp; rfl)
                    try simp only [Act.put, List.setIfInBounds_toArray, List.set_cons_zero, List.set_cons_succ]
                    refine RelO.next (k' := 7) rfl (fun W gW hF => ?_) ?_
                    focus
                      obtain ⟨h5, _⟩ := hF
                      have e5 : val 5 = .pointer (some ⟨c, off + k * 3, none⟩) := h5 _ (Frm.refl _ W)
                      try simp only [e5]
                      try simp only [tupAt]
                      obtain ⟨x0, x1, x2⟩ := HX.out W (D.trans gW)
                      exact OpOK.val (u := .agg #[.int .u8 x.r, .int .u32 x.n, .string (bs x.s)]) (by rfl) (by first | (go_simp; done) | (go_simp; with_reducible rfl) | (go_simp; rfl)) (fun W' _ => rfl)
                    try simp only [Act.put, List.setIfInBounds_toArray, List.set_cons_zero, List.set_cons_succ]
                    refine RelO.next (k' := 8) rfl (fun W gW hF => ?_) ?_
                    focus
                      obtain ⟨h1, h6, _⟩ := hF
                      have e1 : val 1 = u := h1 _ (Frm.refl _ W)
                      have e6 : val 6 = .agg #[.int .u8 x.r, .int .u32 x.n, .string (bs x.s)] := h6 _ (Frm.refl _ W)
                      try simp only [e6]
                      try simp only [e1]
                      try simp only [tupAt]
                      have hBW := (HF.out.keep (D.trans gW)).blk.lt
                      refine OpOK.call (by rfl) ?_ ((rput_any u lf x W (HF.out.keep (D.trans gW)).own.sl (by omega)).mono ?_)
                      · first | (go_simp; done) | (go_simp; with_reducible rfl) | (go_simp; rfl)
                      · rintro e W1 ⟨v', rfl, o', g', n'⟩
                        exact ⟨_, rfl, g', fun W2 g2 => ⟨v', rfl, o'.keep g2 (fun _ _ h => h), fun g e => Nat.lt_of_lt_of_le hBW (n' g e)⟩⟩
                    try simp only [Act.put, List.setIfInBounds_toArray, List.set_cons_zero, List.set_cons_succ]
                    exact RelO.nil
                  intro val w6 gW hF
                  obtain ⟨h0, h1, h2, h3, h4, h5, h6, h7, hT⟩ := hF
                  have e0 : val 0 = .pointer (some ⟨B, 8, none⟩) := h0 _ (Frm.refl _ w6)
                  have e1 : val 1 = u := h1 _ (Frm.refl _ w6)
                  have e2 : val 2 = .pointer (some ⟨N, 8, none⟩) := h2 _ (Frm.refl _ w6)
                  have e3 : val 3 = .slice (some ⟨c, off, none⟩) l.length cap1 := h3 _ (Frm.refl _ w6)
                  have e4 : val 4 = .int .i64 (k : Int) := h4 _ (Frm.refl _ w6)
                  have e5 : val 5 = .pointer (some ⟨c, off + k * 3, none⟩) := h5 _ (Frm.refl _ w6)
                  have e6 : val 6 = .agg #[.int .u8 x.r, .int .u32 x.n, .string (bs x.s)] := h6 _ (Frm.refl _ w6)
                  have q7 : ∃ z, (val 7) = z ∧ OwnL w6 z (putL lf x) ∧ ∀ g, z.ownBlock = some g → B < g := h7 _ (Frm.refl _ w6)
                  obtain ⟨xp, e7, op, np⟩ := q7
                  clear hT h0 h1 h2 h3 h4 h5 h6 h7
                  simp only [aO, Act.put, List.setIfInBounds_toArray, List.set_cons_zero, List.set_cons_succ, Nat.reduceAdd]
                  try simp only [e7]
                  try simp only [e6]
                  try simp only [e5]
                  try simp only [e4]
                  try simp only [e3]
                  try simp only [e2]
                  try simp only [e1]
                  try simp only [e0]
                  try simp only [tupAt]
                  obtain ⟨ap, cp, rfl, _, _⟩ := Row.slice op
                  refine tail_setR (w0 := w2) B (jn8 f g) lf (putL lf x) u _ _ _ rfl rfl rfl rfl rfl rfl rfl (HF.out.keep (D.trans gW)) op np (fun W' => ?_) rfl rfl ?_
                  · first | (go_simp; done) | (go_simp; with_reducible rfl) | (go_simp; rfl)
                  intro w7 F2
                  try simp only [Act.put, List.setIfInBounds_toArray, List.set_cons_zero, List.set_cons_succ]
                  refine hK2 _ _ ?_
                  rw [← HNX.out] at F2
                  clear gW D op np HF HX HB e0 e1 e2 e3 e4 e5 e6 e7
                  go_wp2_with fail
                  go_roundw
                  case rel => exact ⟨k + 1, _, by omega, by go_num, F2⟩
                  case measure => simp [intOf]; omega
            · obtain rfl : k = l.length := by omega
              have F8 := HF.out
              rw [List.take_length] at F8
              clear HF hk hlt
              obtain ⟨w8, hw8⟩ : ∃ w8, w8 = wr := ⟨_, rfl⟩
              rw [← hw8] at F8 c8 ⊢
              clear hw8
              obtain ⟨AA, hAA⟩ : ∃ AA, (l.filter (fun x => decide (x.d ∈ m.map SibI.d) || !has8 g x.r x.n)).foldl putL [] = AA := ⟨_, rfl⟩
              have hAl : AA.length ≤ l.length := by
                rw [← hAA, (puts_perm _ []).length_eq]
                simpa using List.length_filter_le _ l
              have HST2 : Hid (rstay f g l m = (m.filter (fun x => !has8 f x.r x.n)).foldl putL AA) := Lib.hid (by rw [HST.out, hAA])
              rw [hAA] at F8
              clear hAA HST
              have F0 : FillT 47 w2 B (jn8 f g) (((m.take 0).filter (fun x => !has8 f x.r x.n)).foldl putL AA) u w8 := by rw [List.take_zero]; exact F8
              clear F8
              go_wp2_with fail
              go_loopw [9] (fun i wr => ∃ (k : Nat) (u : Value), k ≤ m.length ∧ i = .int .i64 k ∧ FillT 47 w2 B (jn8 f g) (((m.take k).filter (fun x => !has8 f x.r x.n)).foldl putL AA) u wr) (fun i _ => m.length - (intOf i).toNat)
              case atStart => exact ⟨0, _, Nat.zero_le _, rfl, F0⟩
              case round =>
                obtain ⟨k, u, hk, rfl, F1⟩ := hrel
                clear F0
                have HF := Lib.hid F1
                have c8 := (HB1.out wr F1.frm).cell 8 rfl
                clear F1
                by_cases hlt : k < m.length
                · obtain ⟨c, off, rfl, _, _, _⟩ := hm0.cells k hlt
                  have HX : Hid (∀ W, Frm (fun _ => False) wr W → W.cell? ⟨c, off + k * 3, none⟩ = some (.int .u8 m[k].r) ∧ W.cell? ⟨c, off + k * 3 + 1, none⟩ = some (.int .u32 m[k].n) ∧ W.cell? ⟨c, off + k * 3 + 2, none⟩ = some (.string (bs m[k].s))) := Lib.hid fun W gW => by
                    obtain ⟨g2, off2, e, x0, x1, x2⟩ := (hm0.keepF (HF.out.frm.trans gW)).cells k hlt
                    cases e
                    exact ⟨x0, x1, x2⟩
                  have HB : Hid (∀ W, Frm (fun _ => False) wr W → Blk W M 47 (rgc g (.slice (some ⟨c, off, none⟩) m.length cap2))) := Lib.hid fun W gW => HB1.out W (HF.out.frm.trans gW)
                  have HTK := Lib.hid (puts_take (p := (fun x => !has8 f x.r x.n)) m k hlt AA)
                  have hlen := puts_len (fun x => !has8 f x.r x.n) m k AA
                  have hki : (k : Int) < (m.length : Int) := by omega
                  have hk0 : (0 : Int) ≤ (k : Int) := by omega
                  obtain ⟨x, hx⟩ : ∃ x, m[k] = x := ⟨_, rfl⟩
                  rw [hx] at HX HTK
                  generalize ((m.take k).filter (fun x => !has8 f x.r x.n)).foldl putL AA = lf at *
                  clear hx
                  have HN1 : Hid (∀ W, Frm (fun _ => False) wr W → Blk W N 47 (rgc f (.slice a1 l.length cap1))) := Lib.hid fun W gW => HB0.out W (HF.out.frm.trans gW)
                  have hlf : lf.length ≤ 1000 := by omega
                  clear hlen
                  have hTK := HTK.out
                  obtain ⟨q, hq2⟩ : ∃ q, has8 f x.r x.n = q := ⟨_, rfl⟩
                  have HQ2 := Lib.hid hq2
                  rw [hq2] at hTK
                  have HTK2 := Lib.hid hTK
                  clear hTK hq2 HTK
                  go_upto_region 17 with fail
                  rename_i hK
                  clear c8
                  have D : Frm (fun _ => False) wr wr.drew := (Frm.refl _ _).drew
                  refine wp_region_late 10 0 [] [[], [0], [], [2], [], [3, 4], [5], [6], [1, 7], [8]] rj17M (rj17R f N M c off k m.length cap2 x q) (by kernel_rfl) rfl rfl rfl (by kernel_rfl) (by kernel_rfl) (by kernel_rfl) (by kernel_rfl) rfl (by kernel_rfl) (by kernel_rfl) (by kernel_rfl) (by kernel_rfl) (fun val => ?_) ?_
                  · try dsimp only
                    refine RelO.next (k' := 1) rfl (fun W gW hF => ?_) ?_
                    focus
                      refine OpOK.val (u := .pointer (some ⟨N, 0, none⟩)) (by rfl) ?_ (fun W' _ => rfl)
                      try simp only [tupAt]
                      first | (go_simp; done) | (go_simp; with_reducible rfl) | (go_simp; rfl)
                    try simp only [Act.put, List.setIfInBounds_toArray, List.set_cons_zero, List.set_cons_succ]
                    refine RelO.next (k' := 2) rfl (fun W gW hF => ?_) ?_
                    focus
                      obtain ⟨h0, _⟩ := hF
                      have e0 : val 0 = .pointer (some ⟨N, 0, none⟩) := h0 _ (Frm.refl _ W)
                      try simp only [e0]
                      try simp only [tupAt]
                      exact OpOK.load (by rfl) _ rfl (by rfl) (load_rctx (HN1.out W (D.trans gW))) (fun W' _ => rfl)
                    try simp only [Act.put, List.setIfInBounds_toArray, List.set_cons_zero, List.set_cons_succ]
                    refine RelO.next (k' := 3) rfl (fun W gW hF => ?_) ?_
                    focus
                      refine OpOK.val (u := .pointer (some ⟨M, 8, none⟩)) (by rfl) ?_ (fun W' _ => rfl)
                      try simp only [tupAt]
                      first | (go_simp; done) | (go_simp; with_reducible rfl) | (go_simp; rfl)
                    try simp only [Act.put, List.setIfInBounds_toArray, List.set_cons_zero, List.set_cons_succ]
                    refine RelO.next (k' := 4) rfl (fun W gW hF => ?_) ?_
                    focus
                      obtain ⟨h2, _⟩ := hF
                      have e2 : val 2 = .pointer (some ⟨M, 8, none⟩) := h2 _ (Frm.refl _ W)
                      try simp only [e2]
                      try simp only [tupAt]
                      have c8 := (HB.out W (D.trans gW)).cell 8 rfl
                      have a3 := Try.isAgg45
                      have z3 := Try.sizeOf45
                      exact OpOK.val (u := .slice (some ⟨c, off, none⟩) m.length cap2) (by rfl) (by first | (go_simp; done) | (go_simp; with_reducible rfl) | (go_simp; rfl)) (fun W' _ => rfl)
                    try simp only [Act.put, List.setIfInBounds_toArray, List.set_cons_zero, List.set_cons_succ]
                    refine RelO.next (k' := 5) rfl (fun W gW hF => ?_) ?_
                    focus
                      refine OpOK.val (u := .int .i64 (k : Int)) (by rfl) ?_ (fun W' _ => rfl)
                      try simp only [tupAt]
                      first | (go_simp; done) | (go_simp; with_reducible rfl) | (go_simp; rfl)
                    try simp only [Act.put, List.setIfInBounds_toArray, List.set_cons_zero, List.set_cons_succ]
                    refine RelO.next (k' := 6) rfl (fun W gW hF => ?_) ?_
                    focus
                      obtain ⟨h3, h4, _⟩ := hF
                      have e3 : val 3 = .slice (some ⟨c, off, none⟩) m.length cap2 := h3 _ (Frm.refl _ W)
                      have e4 : val 4 = .int .i64 (k : Int) := h4 _ (Frm.refl _ W)
                      try simp only [e4]
                      try simp only [e3]
                      try simp only [tupAt]
                      refine OpOK.val (u := .pointer (some ⟨c, off + k * 3, none⟩)) (by rfl) ?_ (fun W' _ => rfl)
                      try simp only [e4]
                      try simp only [e3]
                      try simp only [tupAt]
                      first | (go_simp; done) | (go_simp; with_reducible rfl) | (go_simp; rfl)
                    try simp only [Act.put, List.setIfInBounds_toArray, List.set_cons_zero, List.set_cons_succ]
                    refine RelO.next (k' := 7) rfl (fun W gW hF => ?_) ?_
                    focus
                      obtain ⟨h5, _⟩ := hF
                      have e5 : val 5 = .pointer (some ⟨c, off + k * 3, none⟩) := h5 _ (Frm.refl _ W)
                      try simp only [e5]
                      try simp only [tupAt]
                      refine OpOK.val (u := .pointer (some ⟨c, off + k * 3, none⟩)) (by rfl) ?_ (fun W' _ => rfl)
                      try simp only [e5]
                      try simp only [tupAt]
                      first | (go_simp; done) | (go_simp; with_reducible rfl) | (go_simp; rfl)
                    try simp only [Act.put, List.setIfInBounds_toArray, List.set_cons_zero, List.set_cons_succ]
                    refine RelO.next (k' := 8) rfl (fun W gW hF => ?_) ?_
                    focus
                      obtain ⟨h6, _⟩ := hF
                      have e6 : val 6 = .pointer (some ⟨c, off + k * 3, none⟩) := h6 _ (Frm.refl _ W)
                      try simp only [e6]
                      try simp only [tupAt]
                      obtain ⟨x0, x1, x2⟩ := HX.out W (D.trans gW)
                      exact OpOK.val (u := .agg (dv x.r x.n)) (by rfl) (by first | (go_simp; done) | (go_simp; with_reducible rfl) | (go_simp; rfl)) (fun W' _ => rfl)
                    try simp only [Act.put, List.setIfInBounds_toArray, List.set_cons_zero, List.set_cons_succ]
                    refine RelO.next (k' := 9) rfl (fun W gW hF => ?_) ?_
                    focus
                      obtain ⟨h1, h7, _⟩ := hF
                      have e1 : val 1 = .agg (vv f) := h1 _ (Frm.refl _ W)
                      have e7 : val 7 = .agg (dv x.r x.n) := h7 _ (Frm.refl _ W)
                      try simp only [e7]
                      try simp only [e1]
                      try simp only [tupAt]
                      refine OpOK.call (by rfl) ?_ ((rhas6_any f x.r x.n W).mono ?_)
                      · first | (go_simp; done) | (go_simp; with_reducible rfl) | (go_simp; rfl)
                      · rintro e W1 ⟨he, g1⟩
                        rw [HQ2.out] at he
                        subst he
                        exact ⟨_, rfl, g1, fun W2 _ => rfl⟩
                    try simp only [Act.put, List.setIfInBounds_toArray, List.set_cons_zero, List.set_cons_succ]
                    refine RelO.next (k' := 10) rfl (fun W gW hF => ?_) ?_
                    focus
                      obtain ⟨h8, _⟩ := hF
                      have e8 : val 8 = .bool q := h8 _ (Frm.refl _ W)
                      try simp only [e8]
                      try simp only [tupAt]
                      refine OpOK.val (u := .bool (!q)) (by rfl) ?_ (fun W' _ => rfl)
                      try simp only [e8]
                      try simp only [tupAt]
                      first | (go_simp; done) | (go_simp; with_reducible rfl) | (go_simp; rfl)
                    try simp only [Act.put, List.setIfInBounds_toArray, List.set_cons_zero, List.set_cons_succ]
                    exact RelO.nil
                  intro val w5 gW hF
                  obtain ⟨h0, h1, h2, h3, h4, h5, h6, h7, h8, h9, hT⟩ := hF
                  have e0 : val 0 = .pointer (some ⟨N, 0, none⟩) := h0 _ (Frm.refl _ w5)
                  have e1 : val 1 = .agg (vv f) := h1 _ (Frm.refl _ w5)
                  have e2 : val 2 = .pointer (some ⟨M, 8, none⟩) := h2 _ (Frm.refl _ w5)
                  have e3 : val 3 = .slice (some ⟨c, off, none⟩) m.length cap2 := h3 _ (Frm.refl _ w5)
                  have e4 : val 4 = .int .i64 (k : Int) := h4 _ (Frm.refl _ w5)
                  have e5 : val 5 = .pointer (some ⟨c, off + k * 3, none⟩) := h5 _ (Frm.refl _ w5)
                  have e6 : val 6 = .pointer (some ⟨c, off + k * 3, none⟩) := h6 _ (Frm.refl _ w5)
                  have e7 : val 7 = .agg (dv x.r x.n) := h7 _ (Frm.refl _ w5)
                  have e8 : val 8 = .bool q := h8 _ (Frm.refl _ w5)
                  have e9 : val 9 = .bool (!q) := h9 _ (Frm.refl _ w5)
                  clear hT h0 h1 h2 h3 h4 h5 h6 h7 h8 h9
                  simp only [aO, Act.put, List.setIfInBounds_toArray, List.set_cons_zero, List.set_cons_succ, Nat.reduceAdd]
                  try simp only [e9]
                  try simp only [e8]
                  try simp only [e7]
                  try simp only [e6]
                  try simp only [e5]
                  try simp only [e4]
                  try simp only [e3]
                  try simp only [e2]
                  try simp only [e1]
                  try simp only [e0]
                  try simp only [tupAt]
                  refine wpTail.doneN ?_
                  refine hK _ _ ?_
                  have gD := D.trans gW
                  clear gW D e0 e1 e2 e3 e4 e5 e6 e7 e8 e9
                  replace HF := Lib.hid (HF.out.keep gD)
                  replace HX := Hid.grow HX gD
                  replace HB := Hid.grow HB gD
                  cases q with
                  | true =>
                    try simp only [Bool.not_true]
                    have HNX := Lib.hid (HTK2.out.trans (if_neg (by decide)))
                    clear HTK2
                    go_wp2_with fail
                    go_roundw
                    case rel => exact ⟨k + 1, u, by omega, by go_num, by rw [HNX.out]; exact HF.out⟩
                    case measure => simp [intOf]; omega
                  | false =>
                    try simp only [Bool.not_false]
                    have HNX := Lib.hid (HTK2.out.trans (if_pos rfl))
                    clear HTK2
                    go_upto_region 18 with fail
                    rename_i hK2 K2
                    have D : Frm (fun _ => False) w5 w5.drew := (Frm.refl _ _).drew
                    refine wp_region_late 8 2 [] [[], [0], [], [2], [], [3, 4], [5], [1, 6]] rj18M (rj18R u lf B M c off k m.length cap2 x) (by kernel_rfl) rfl rfl rfl (by kernel_rfl) (by kernel_rfl) (by kernel_rfl) (by kernel_rfl) rfl (by kernel_rfl) (by kernel_rfl) (by kernel_rfl) (by kernel_rfl) (fun val => ?_) ?_
                    · try simp only [Act.put, List.setIfInBounds_toArray, List.set_cons_zero, List.set_cons_succ]
                      refine RelO.next (k' := 1) rfl (fun W gW hF => ?_) ?_
                      focus
                        refine OpOK.val (u := .pointer (some ⟨B, 8, none⟩)) (by rfl) ?_ (fun W' _ => rfl)
                        try simp only [tupAt]
                        first | (go_simp; done) | (go_simp; with_reducible rfl) | (go_simp; rfl)
                      try simp only [Act.put, List.setIfInBounds_toArray, List.set_cons_zero, List.set_cons_succ]
                      refine RelO.next (k' := 2) rfl (fun W gW hF => ?_) ?_
                      focus
                        obtain ⟨h0, _⟩ := hF
                        have e0 : val 0 = .pointer (some ⟨B, 8, none⟩) := h0 _ (Frm.refl _ W)
                        try simp only [e0]
                        try simp only [tupAt]
                        have c8 := (HF.out.keep (D.trans gW)).blk.cell 8 rfl
                        have a3 := Try.isAgg45
                        have z3 := Try.sizeOf45
                        exact OpOK.val (u := u) (by rfl) (by first | (go_simp; done) | (go_simp; with_reducible rfl) | (go_simp; rfl)) (fun W' _ => rfl)
                      try simp only [Act.put, List.setIfInBounds_toArray, List.set_cons_zero, List.set_cons_succ]
                      refine RelO.next (k' := 3) rfl (fun W gW hF => ?_) ?_
                      focus
                        refine OpOK.val (u := .pointer (some ⟨M, 8, none⟩)) (by rfl) ?_ (fun W' _ => rfl)
                        try simp only [tupAt]
                        first | (go_simp; done) | (go_simp; with_reducible rfl) | (go_simp; rfl)
                      try simp only [Act.put, List.setIfInBounds_toArray, List.set_cons_zero, List.set_cons_succ]
                      refine RelO.next (k' := 4) rfl (fun W gW hF => ?_) ?_
                      focus
                        obtain ⟨h2, _⟩ := hF
                        have e2 : val 2 = .pointer (some ⟨M, 8, none⟩) := h2 _ (Frm.refl _ W)
                        try simp only [e2]
                        try simp only [tupAt]
                        have c8 := (HB.out W (D.trans gW)).cell 8 rfl
                        have a3 := Try.isAgg45
                        have z3 := Try.sizeOf45
                        exact OpOK.val (u := .slice (some ⟨c, off, none⟩) m.length cap2) (by rfl) (by first | (go_simp; done) | (go_simp; with_reducible rfl) | (go_simp; rfl)) (fun W' _ => rfl)
                      try simp only [Act.put, List.setIfInBounds_toArray, List.set_cons_zero, List.set_cons_succ]
                      refine RelO.next (k' := 5) rfl (fun W gW hF => ?_) ?_
                      focus
                        refine OpOK.val (u := .int .i64 (k : Int)) (by rfl) ?_ (fun W' _ => rfl)
                        try simp only [tupAt]
                        first | (go_simp; done) | (go_simp; with_reducible rfl) | (go_simp; rfl)
                      try simp only [Act.put, List.setIfInBounds_toArray, List.set_cons_zero, List.set_cons_succ]
                      refine RelO.next (k' := 6) rfl (fun W gW hF => ?_) ?_
                      focus
                        obtain ⟨h3, h4, _⟩ := hF
                        have e3 : val 3 = .slice (some ⟨c, off, none⟩) m.length cap2 := h3 _ (Frm.refl _ W)
                        have e4 : val 4 = .int .i64 (k : Int) := h4 _ (Frm.refl _ W)
                        try simp only [e4]
                        try simp only [e3]
                        try simp only [tupAt]
                        refine OpOK.val (u := .pointer (some ⟨c, off + k * 3, none⟩)) (by rfl) ?_ (fun W' _ => rfl)
                        try simp only [e4]
                        try simp only [e3]
                        try simp only [tupAt]
                        first | (go_simp; done) | (go_simp; with_reducible rfl) | (go_simp; rfl)
                      try simp only [Act.put, List.setIfInBounds_toArray, List.set_cons_zero, List.set_cons_succ]
                      refine RelO.next (k' := 7) rfl (fun W gW hF => ?_) ?_
                      focus
                        obtain ⟨h5, _⟩ := hF
                        have e5 : val 5 = .pointer (some ⟨c, off + k * 3, none⟩) := h5 _ (Frm.refl _ W)
                        try simp only [e5]
                        try simp only [tupAt]
                        obtain ⟨x0, x1, x2⟩ := HX.out W (D.trans gW)
                        exact OpOK.val (u := .agg #[.int .u8 x.r, .int .u32 x.n, .string (bs x.s)]) (by rfl) (by first | (go_simp; done) | (go_simp; with_reducible rfl) | (go_simp; rfl)) (fun W' _ => rfl)
                      try simp only [Act.put, List.setIfInBounds_toArray, List.set_cons_zero, List.set_cons_succ]
                      refine RelO.next (k' := 8) rfl (fun W gW hF => ?_) ?_
                      focus
                        obtain ⟨h1, h6, _⟩ := hF
                        have e1 : val 1 = u := h1 _ (Frm.refl _ W)
                        have e6 : val 6 = .agg #[.int .u8 x.r, .int .u32 x.n, .string (bs x.s)] := h6 _ (Frm.refl _ W)
                        try simp only [e6]
                        try simp only [e1]
                        try simp only [tupAt]
                        have hBW := (HF.out.keep (D.trans gW)).blk.lt
                        refine OpOK.call (by rfl) ?_ ((rput_any u lf x W (HF.out.keep (D.trans gW)).own.sl (by omega)).mono ?_)
                        · first | (go_simp; done) | (go_simp; with_reducible rfl) | (go_simp; rfl)
                        · rintro e W1 ⟨v', rfl, o', g', n'⟩
                          exact ⟨_, rfl, g', fun W2 g2 => ⟨v', rfl, o'.keep g2 (fun _ _ h => h), fun g e => Nat.lt_of_lt_of_le hBW (n' g e)⟩⟩
                      try simp only [Act.put, List.setIfInBounds_toArray, List.set_cons_zero, List.set_cons_succ]
                      exact RelO.nil
                    intro val w6 gW hF
                    obtain ⟨h0, h1, h2, h3, h4, h5, h6, h7, hT⟩ := hF
                    have e0 : val 0 = .pointer (some ⟨B, 8, none⟩) := h0 _ (Frm.refl _ w6)
                    have e1 : val 1 = u := h1 _ (Frm.refl _ w6)
                    have e2 : val 2 = .pointer (some ⟨M, 8, none⟩) := h2 _ (Frm.refl _ w6)
                    have e3 : val 3 = .slice (some ⟨c, off, none⟩) m.length cap2 := h3 _ (Frm.refl _ w6)
                    have e4 : val 4 = .int .i64 (k : Int) := h4 _ (Frm.refl _ w6)
                    have e5 : val 5 = .pointer (some ⟨c, off + k * 3, none⟩) := h5 _ (Frm.refl _ w6)
                    have e6 : val 6 = .agg #[.int .u8 x.r, .int .u32 x.n, .string (bs x.s)] := h6 _ (Frm.refl _ w6)
                    have q7 : ∃ z, (val 7) = z ∧ OwnL w6 z (putL lf x) ∧ ∀ g, z.ownBlock = some g → B < g := h7 _ (Frm.refl _ w6)
                    obtain ⟨xp, e7, op, np⟩ := q7
                    clear hT h0 h1 h2 h3 h4 h5 h6 h7
                    simp only [aO, Act.put, List.setIfInBounds_toArray, List.set_cons_zero, List.set_cons_succ, Nat.reduceAdd]
                    try simp only [e7]
                    try simp only [e6]
                    try simp only [e5]
                    try simp only [e4]
                    try simp only [e3]
                    try simp only [e2]
                    try simp only [e1]
                    try simp only [e0]
                    try simp only [tupAt]
                    obtain ⟨ap, cp, rfl, _, _⟩ := Row.slice op
                    refine tail_setR (w0 := w2) B (jn8 f g) lf (putL lf x) u _ _ _ rfl rfl rfl rfl rfl rfl rfl (HF.out.keep (D.trans gW)) op np (fun W' => ?_) rfl rfl ?_
                    · first | (go_simp; done) | (go_simp; with_reducible rfl) | (go_simp; rfl)
                    intro w7 F2
                    try simp only [Act.put, List.setIfInBounds_toArray, List.set_cons_zero, List.set_cons_succ]
                    refine hK2 _ _ ?_
                    rw [← HNX.out] at F2
                    clear gW D op np HF HX HB e0 e1 e2 e3 e4 e5 e6 e7
                    go_wp2_with fail
                    go_roundw
                    case rel => exact ⟨k + 1, _, by omega, by go_num, F2⟩
                    case measure => simp [intOf]; omega
                · obtain rfl : k = m.length := by omega
                  have F8 := HF.out
                  rw [List.take_length, ← HST2.out] at F8
                  clear HF hk hlt
                  have hJ := HJ2.out
                  generalize rstay f g l m = R at *
                  have b2 := HB2.out wr F8.frm
                  have c9 := F8.blk.cell 8 rfl
                  obtain ⟨a3, c3, rfl, _, _⟩ := Row.slice F8.own
                  have hlo := fun g e => (F8.out g e).1
                  have k8 := k2.trans F8.frm
                  have hw2 := k2.size
                  by_cases h8 : 8 < R.length
                  · rw [if_pos h8] at hJ
                    subst hJ
                    have h8i : (8 : Int) < (R.length : Int) := by omega
                    clear h8
                    go_wp2_with ((with_reducible refine wpl_store_blk rfl 47 _ _ rfl (M + 1) rz rz ?_ ?_ b2 rfl ?_ ?_ ?_); (focus rfl); (focus rfl); (focus (show _ = some 9; kernel_rfl)); (focus (simp [Value.oneCell'])); intro w9 e2 g9 z9; have c8 := e2.cell 8 rfl; have h2 := rcellsT (show Blk _ _ _ (rgc (fun _ => 0) (.slice none 0 0)) from e2))
                    refine bodyPost_ret (v := .tuple #[rg (fun _ => 0) (.slice none 0 0), .int .i64 7]) (by simp [results, Try.results29, go_sem, h2, c8]) rfl ?_
                    exact ⟨_, rfl, OwnL.nil_ _, (fun g hg => by cases hg), k8.next g9 (fun k hk h => by have h : k = M + 1 := h; have := HN.out; omega)⟩
                  · rw [if_neg h8] at hJ
                    subst hJ
                    have h8i : ¬ (8 : Int) < (R.length : Int) := by omega
                    have lR := load_rreg F8.blk
                    clear h8
                    go_wp2_with (first
                      | ((with_reducible refine wpl_load rfl _ rfl ?_ lR ?_); (focus rfl))
                      | ((with_reducible refine wpl_store_blk rfl 47 _ _ rfl (M + 1) (rgc (jn8 f g) (.slice a3 R.length c3)) rz ?_ ?_ b2 rfl ?_ ?_ ?_); (focus rfl); (focus rfl); (focus (show _ = some 9; kernel_rfl)); (focus (exact rg_one _ _ _ _)); intro w9 e2 g9 z9; have c8 := e2.cell 8 rfl; have h2 := rcellsT e2))
                    refine bodyPost_ret (v := .tuple #[rg (jn8 f g) (.slice a3 R.length c3), .int .i64 0]) (by simp [results, Try.results29, go_sem, h2, c8]) rfl ?_
                    exact ⟨_, rfl, F8.own.keep g9 (fun g e h => by have h : g = M + 1 := h; have := hlo g e; have := HBE.out; omega), (fun g e => by have := hlo g e; omega), k8.next g9 (fun k hk h => by have h : k = M + 1 := h; have := HN.out; omega)⟩
end Go.Proofs.Ytmdmkcofafhlcaa

