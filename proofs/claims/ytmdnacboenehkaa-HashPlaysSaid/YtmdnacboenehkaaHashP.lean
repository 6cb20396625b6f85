/- What place answers; the mathematics of HashFinds. No condition. -/
import Derived.Test.YtmdnacboenehkaaHashW
namespace Go.Proofs.Ytmdnacboenehkaa
open Go.RowKit

set_option maxRecDepth 100000 in
set_option maxHeartbeats 1000000 in
theorem place_yes (v : Value) (l : List Nat) (x : Nat) (w : World) (h : Ids w v l) (hm : x ∈ l) :
    Calls Try.prog 20 #[v, .int .u32 x] w fun e w' => e = .returned (.int .i64 (idx x l : Nat)) ∧ w = w' := by
  obtain ⟨a, cap, rfl, hc1, hc2⟩ := h.slice
  have hx := idx_lt hm
  have hat := idx_at hm
  have hbef : ∀ j (hj : j < l.length), j < idx x l → l[j] ≠ x := fun j hj h => before_idx hj h
  have Hat := Lib.hid hat
  have Hbef := Lib.hid hbef
  clear hat hbef
  unfold maxLen at hc2
  go_enter Try.func20, Try.ntmps20
  go_wp2
  go_loop [5] (fun i => ∃ k : Nat, k ≤ idx x l ∧ i = .int .i64 k) (fun i => idx x l + 1 - (intOf i).toNat)
  case atStart => exact ⟨0, Nat.zero_le _, rfl⟩
  case round =>
    obtain ⟨k, hk, rfl⟩ := hrel
    have hk2 : k < l.length := by omega
    obtain ⟨g, off, rfl, hb, c0⟩ := h.at k hk2
    by_cases e : k = idx x l
    · have he : l[k] = x := by subst e; exact Hat.out
      rw [he] at c0
      have hq : ((x : Int) == (x : Int)) = true := beq_self_eq_true _
      have He := Lib.hid e
      clear e he
      go_wp2
      go_ret
      exact ⟨ret_int (by rw [He.out]), rfl⟩
    · have hne : l[k] ≠ x := Hbef.out k hk2 (by omega)
      have hq : ((l[k] : Int) == (x : Int)) = false := by rw [beq_eq_false_iff_ne]; omega
      go_wp2
      go_round
      case rel => exact ⟨k + 1, by omega, by go_num⟩
      case measure => simp [intOf]; omega

set_option maxRecDepth 100000 in
set_option maxHeartbeats 1000000 in
theorem place_no (v : Value) (l : List Nat) (x : Nat) (w : World) (h : Ids w v l) (hm : x ∉ l) :
    Calls Try.prog 20 #[v, .int .u32 x] w fun e w' => e = .returned (.int .i64 (-1)) ∧ w = w' := by
  obtain ⟨a, cap, rfl, hc1, hc2⟩ := h.slice
  have hbef : ∀ j (hj : j < l.length), l[j] ≠ x := fun j hj e => hm (e ▸ List.getElem_mem hj)
  have Hbef := Lib.hid hbef
  clear hbef hm
  unfold maxLen at hc2
  go_enter Try.func20, Try.ntmps20
  go_wp2
  go_loop [5] (fun i => ∃ k : Nat, k ≤ l.length ∧ i = .int .i64 k) (fun i => l.length - (intOf i).toNat)
  case atStart => exact ⟨0, Nat.zero_le _, rfl⟩
  case round =>
    obtain ⟨k, hk, rfl⟩ := hrel
    by_cases hlt : k < l.length
    · obtain ⟨g, off, rfl, hb, c0⟩ := h.at k hlt
      have hne : l[k] ≠ x := Hbef.out k hlt
      have hq : ((l[k] : Int) == (x : Int)) = false := by rw [beq_eq_false_iff_ne]; omega
      go_wp2
      go_round
      case rel => exact ⟨k + 1, by omega, by go_num⟩
      case measure => simp [intOf]; omega
    · obtain rfl : k = l.length := by omega
      go_wp2
      go_ret
      exact ⟨rfl, rfl⟩

/-- An index made since w1, and ids in memory of their own. -/
def FJ (w1 wr : World) (b : Nat) (I : List (Nat × Nat)) (ids : List Nat) (v : Value) : Prop :=
  ∃ fp, Hx wr b (sel I) fp ∧ (∀ k, fp k → w1.heap.size ≤ k) ∧ Own wr v ids ∧ (∀ g, v.ownBlock = some g → w1.heap.size ≤ g ∧ ¬ fp g) ∧ Frm (fun _ => False) w1 wr
section
variable {w1 wr W w' : World} {b : Nat} {I : List (Nat × Nat)} {ids l' : List Nat} {v v' vs : Value}
theorem FJ.reads (h : FJ w1 wr b I ids v) : Ids wr v ids := by
  obtain ⟨_, _, _, h3, _⟩ := h; exact h3.ids
theorem FJ.own (h : FJ w1 wr b I ids v) : Own wr v ids := by
  obtain ⟨_, _, _, h3, _⟩ := h; exact h3
theorem FJ.frm (h : FJ w1 wr b I ids v) : Frm (fun _ => False) w1 wr := by
  obtain ⟨_, _, _, _, _, h5⟩ := h; exact h5
theorem FJ.index (h : FJ w1 wr b I ids v) : HL w1 wr b (sel I) := by
  obtain ⟨fp, h1, h2, _, _, h5⟩ := h; exact ⟨fp, h1, h5, h2⟩
theorem FJ.keep (h : FJ w1 wr b I ids v) (f : Frm (fun _ => False) wr w') : FJ w1 w' b I ids v := by
  obtain ⟨fp, h1, h2, h3, h4, h5⟩ := h
  exact ⟨fp, h1.keepF f, h2, h3.keep f (fun _ _ h => h), h4, h5.trans f⟩
theorem FJ.start (h : HL w1 wr b (sel I)) : FJ w1 wr b I [] (.slice none 0 0) := by
  obtain ⟨fp, h1, h2, h3⟩ := h
  exact ⟨fp, h1, h3, Own.nil_ _, fun g hg => (by cases hg), h2⟩
theorem FJ.to {fp : Nat → Prop} {I' : List (Nat × Nat)} {r : Nat} {e : Ending} (h2 : ∀ k, fp k → w1.heap.size ≤ k) (h3 : Own wr v ids) (h4 : ∀ g, v.ownBlock = some g → w1.heap.size ≤ g ∧ ¬ fp g) (h5 : Frm (fun _ => False) w1 wr)
    (h : HxTo b (sel I') fp r wr e w') : e = .returned (.int .i64 r) ∧ FJ w1 w' b I' ids v := by
  obtain ⟨he, fp', a1, a2, a3⟩ := h
  refine ⟨he, fp', a1, fun k hk => (a3 k hk).elim (h2 k) (fun e => Nat.le_trans h5.size e), h3.keep a2 (fun g hg => (h4 g hg).2), fun g hg => ⟨(h4 g hg).1, fun hf => ?_⟩, h5.next a2 (fun k hk e => by have := h2 k e; omega)⟩
  rcases a3 g hf with e | e
  · exact (h4 g hg).2 e
  · have := Row.blk h3 g hg; omega
/-- The ids grew. -/
theorem FJ.grow (h : FJ w1 wr b I ids v) (f : Frm (fun _ => False) wr W) (hs : ∀ g, vs.ownBlock = some g → v.ownBlock = some g) (hg : W.grownBy w' vs.ownBlock) (ho : Own w' v' l') (hn : ∀ g, v'.ownBlock = some g → vs.ownBlock = some g ∨ W.heap.size ≤ g) : FJ w1 w' b I l' v' := by
  obtain ⟨fp, h1, h2, h3, h4, h5⟩ := h
  have hf : Frm (fun j => v.ownBlock = some j) wr w' := (f.mono (Y := fun j => v.ownBlock = some j) (fun _ _ h => h.elim)).grown hg (fun k _ e => hs k e)
  refine ⟨fp, h1.keep hf (fun k hk e => (h4 k e).2 hk), h2, ho, fun g hg2 => ?_, h5.next hf (fun k hk e => by have := (h4 k e).1; omega)⟩
  rcases hn g hg2 with e | e
  · exact h4 g (hs g e)
  · have hle := Nat.le_trans f.size e
    exact ⟨Nat.le_trans h5.size hle, fun hfp => by have := h1.1 g hfp; omega⟩
end
theorem add_fj (w1 w : World) (b : Nat) (s : List UInt8) (x : Nat) (I : List (Nat × Nat)) (ids : List Nat) (v : Value) (h : FJ w1 w b I ids v) (hs : s.length ≤ 9223372036854775807) (hl : I.length ≤ 900000) :
    Calls Try.prog 17 #[.pointer (some ⟨b, 0, none⟩), .string (bs s), .int .u32 x] w fun e w' => e = .returned (.int .i64 (addR I (bk s) x)) ∧ FJ w1 w' b (addI I (bk s) x) ids v := by
  obtain ⟨fp, h1, h2, h3, h4, h5⟩ := h
  exact (add_any b s x I fp w h1 hs hl).mono fun e w' r => FJ.to h2 h3 h4 h5 r
theorem drop_fj (w1 w : World) (b : Nat) (s : List UInt8) (x : Nat) (I : List (Nat × Nat)) (ids : List Nat) (v : Value) (h : FJ w1 w b I ids v) (hs : s.length ≤ 9223372036854775807) (hl : I.length ≤ 900000) :
    Calls Try.prog 19 #[.pointer (some ⟨b, 0, none⟩), .string (bs s), .int .u32 x] w fun e w' => e = .returned (.int .i64 (dropR I (bk s) x)) ∧ FJ w1 w' b (I.erase (bk s, x)) ids v := by
  obtain ⟨fp, h1, h2, h3, h4, h5⟩ := h
  exact (drop_any b s x I fp w h1 hs hl).mono fun e w' r => FJ.to h2 h3 h4 h5 r
section
variable (w1 w : World) (b : Nat) (s : List UInt8) (x : Nat) (f : Nat → Nat) (ids : List Nat) (v : Value) (h : FJ w1 w b (itm f ids) ids v) (hs : s.length ≤ 9223372036854775807) (hl : ids.length ≤ 900000) (hf : bk s = f x)
include h hs hl hf
theorem add_fresh (hm : x ∉ ids) : Calls Try.prog 17 #[.pointer (some ⟨b, 0, none⟩), .string (bs s), .int .u32 x] w fun e w' => e = .returned (.int .i64 0) ∧ FJ w1 w' b (itm f (ids ++ [x])) ids v := by
  have hm2 : (f x, x) ∉ itm f ids := fun e => hm (mem_itm.1 e)
  have := add_fj w1 w b s x _ ids v h hs (by rw [itm_len]; exact hl)
  rw [hf] at this
  unfold addR addI at this
  rw [if_neg hm2, if_neg hm2, ← itm_snoc] at this
  exact this
theorem add_again (hm : x ∈ ids) : Calls Try.prog 17 #[.pointer (some ⟨b, 0, none⟩), .string (bs s), .int .u32 x] w fun e w' => e = .returned (.int .i64 6) ∧ FJ w1 w' b (itm f ids) ids v := by
  have hm2 : (f x, x) ∈ itm f ids := mem_itm.2 hm
  have := add_fj w1 w b s x _ ids v h hs (by rw [itm_len]; exact hl)
  rw [hf] at this
  unfold addR addI at this
  rw [if_pos hm2, if_pos hm2] at this
  exact this
theorem drop_there (hm : x ∈ ids) : Calls Try.prog 19 #[.pointer (some ⟨b, 0, none⟩), .string (bs s), .int .u32 x] w fun e w' => e = .returned (.int .i64 0) ∧ FJ w1 w' b (itm f (ids.erase x)) ids v := by
  have hm2 : (f x, x) ∈ itm f ids := mem_itm.2 hm
  have := drop_fj w1 w b s x _ ids v h hs (by rw [itm_len]; exact hl)
  rw [hf] at this
  unfold dropR at this
  rw [if_pos hm2, ← itm_erase] at this
  exact this
theorem drop_not (hm : x ∉ ids) : Calls Try.prog 19 #[.pointer (some ⟨b, 0, none⟩), .string (bs s), .int .u32 x] w fun e w' => e = .returned (.int .i64 5) ∧ FJ w1 w' b (itm f ids) ids v := by
  have hm2 : (f x, x) ∉ itm f ids := fun e => hm (mem_itm.1 e)
  have := drop_fj w1 w b s x _ ids v h hs (by rw [itm_len]; exact hl)
  rw [hf] at this
  unfold dropR at this
  rw [if_neg hm2, ← itm_erase, List.erase_of_not_mem hm] at this
  exact this
end
theorem finds_fj (w1 w : World) (b : Nat) (s : List UInt8) (I : List (Nat × Nat)) (ids : List Nat) (v vw : Value) (h : FJ w1 w b I ids v) (hs : s.length ≤ 9223372036854775807) (hl : I.length ≤ 900000) (hw : Ids w vw (sel I (bk s))) :
    Calls Try.prog 18 #[.pointer (some ⟨b, 0, none⟩), .string (bs s), vw] w fun e w' => e = .returned (.bool true) ∧ Frm (fun _ => False) w w' := by
  obtain ⟨fp, h1, _⟩ := h
  exact finds_yes _ _ vw _ w (find_any b s (sel I) fp w h1 hs (Nat.le_trans (sel_len I (bk s)) (by omega))) hw
/-- Between two rounds: so many have come. -/
structure FnI (wr : World) (pre : List (Nat × Nat)) (W : World) : Prop where
  few : pre.length ≤ 2
  n : Blk W wr.heap.size 3 #[.int .i64 pre.length]
  frm : Frm (fun _ => False) wr W
/-- Where a round has left: three have come. -/
structure FnX (wr : World) (pre : List (Nat × Nat)) (W : World) : Prop where
  three : pre.length = 3
  n : Blk W wr.heap.size 3 #[.int .i64 3]
  frm : Frm (fun _ => False) wr W
theorem FnI.own (wr : World) (B : Nat) (hB : wr.heap.size ≤ B) : OwnFrom B (FnI wr) := fun _ _ _ _ h hg hr => ⟨h.few, h.n.turned hg fun r e => (hr r e).2, h.frm.turned hB hg hr⟩
theorem FnX.own (wr : World) (B : Nat) (hB : wr.heap.size ≤ B) : OwnFrom B (FnX wr) := fun _ _ _ _ h hg hr => ⟨h.three, h.n.turned hg fun r e => (hr r e).2, h.frm.turned hB hg hr⟩
theorem gives_fj (w1 w : World) (b : Nat) (I : List (Nat × Nat)) (ids : List Nat) (v : Value) (h : FJ w1 w b I ids v) (hl : I.length ≤ 900000) (hI : ∀ p ∈ I, p.1 < 16) : ∃ T, T.length = I.length ∧ Gives (some ⟨b, 0, none⟩) w.heap.size T (fun pre => pre <+: T ∧ pre ≠ []) w := by
  obtain ⟨fp, h1, _⟩ := h
  exact ⟨_, allF_total I hI, gives_index b w.heap.size (sel I) fp w h1 h1.1 (fun i _ => Nat.le_trans (sel_len I i) (by omega))⟩
theorem len_fj (w1 w : World) (b : Nat) (I : List (Nat × Nat)) (ids : List Nat) (v : Value) (h : FJ w1 w b I ids v) (hl : I.length ≤ 900000) (hI : ∀ p ∈ I, p.1 < 16) :
    Calls Try.prog 13 #[.pointer (some ⟨b, 0, none⟩)] w fun e w' => e = .returned (.int .i64 I.length) ∧ Frm (fun _ => False) w w' := by
  obtain ⟨fp, h1, _⟩ := h
  have ht := allF_total I hI
  refine (len_any b (sel I) fp w h1 (fun i _ => Nat.le_trans (sel_len I i) (by omega)) (by omega)).mono fun _ _ ⟨a, c⟩ => ?_
  rw [ht] at a
  exact ⟨a, c⟩
/-- A condition, but nothing at a panic. -/
def calm (Q : Exit → Act → World → Prop) : Exit → Act → World → Prop
  | .panic _, _, _ => False
  | e, a, w => Q e a w
theorem calm_le {Q : Exit → Act → World → Prop} (e : Exit) (a : Act) (w : World) (h : calm Q e a w) : Q e a w := by
  cases e <;> first | exact h | exact (h : False).elim
theorem calm_ret {Q : Exit → Act → World → Prop} {a : Act} {w : World} (h : Q .ret a w) : calm Q .ret a w := h
theorem calm_normal {Q : Exit → Act → World → Prop} {a : Act} {w : World} (h : Q .normal a w) : calm Q .normal a w := h
/-- An append whose run is known, in a region that draws. -/
theorem step_append_run {P : Program} {ops : Array Oper} {o : Oper} {a : Act} {w : World} {K : Act → World → Prop} {Q : Exit → Act → World → Prop} {E : Prop}
    (hg : o.guard = none) (s x : Operand) (t tx : TypeId) (hop : o.op = Op.call { callee := Callee.builtin Builtin.append, args := #[s, x], argTypes := #[t, tx] })
    (vs vx : Value) (hs : a.eval s = vs) (hx : a.eval x = vx) (v' : Value) (w' : World) (hr : (Builtin.append_ #[t, tx] o.type #[vs, vx]).run P w = .ok v' w') (hK : K (a.put o.dst v') w') :
    if Region.wanted o (yielded ops a.tmps) = true then Oper.wp P o a w K Q else E := by
  have hw : Region.wanted o (yielded ops a.tmps) = true := by simp [Region.wanted, hg]
  rw [if_pos hw]
  unfold Oper.wp
  simp [execOp, hop, resolve, invoke, builtin, hs, hx, hr, Result.andThen]
  exact hK
theorem Own.ahead {w : World} {g n cap i : Nat} {l : List Nat} (h : Own w (.slice (some ⟨g, 0, none⟩) n cap) l) (hn : l.length = n) (hc : n ≤ cap) (hi : i < n) : Own w (.slice (some ⟨g, 0, none⟩) i i) (l.take i) := by
  subst hn
  have := Row.take h i i (by omega) (Nat.le_refl _) (by omega)
  rw [Nat.mul_one, u32s_take] at this
  have e : (l.take i).length = i := by simp; omega
  unfold Own
  rw [e]
  exact this
/-- An id is taken out of the ids. -/
theorem append_out (w : World) (g n cap i : Nat) (l l' : List Nat) (s2 : Value) (h : Own w (.slice (some ⟨g, 0, none⟩) n cap) l) (hn : l.length = n) (hc : n ≤ cap) (hi : i < n) (hb : n ≤ 1000) (h2 : Ids w s2 (l.drop (i + 1))) (he : l' = l.take i ++ l.drop (i + 1)) :
    ∃ v' w', (Builtin.append_ #[39, 39] 39 #[.slice (some ⟨g, 0, none⟩) i i, s2]).run Try.prog w.drew = .ok v' w' ∧ Own w' v' l' ∧ w.drew.grownBy w' (some g) ∧ (∀ q, v'.ownBlock = some q → some g = some q ∨ w.drew.heap.size ≤ q) := by
  have hf : Frm (fun _ => False) w w.drew := (Frm.refl _ w).drew
  obtain ⟨v', w', h1, h3, h4, h5⟩ := append_ids w.drew _ s2 (l.take i) (l.drop (i + 1)) ((h.ahead hn hc hi).keep hf (fun _ _ h => h)) (h2.keepF hf) (by simp; omega)
  rw [← he] at h3
  exact ⟨v', w', h1, h3, h4, h5⟩
theorem out_len {l l' : List Nat} {i k : Nat} (h : l' = l.take i ++ l.drop (i + 1)) (hl : l.length ≤ k) : l'.length ≤ k := by
  rw [h]; simp; omega
theorem out_all {l l' : List Nat} {i : Nat} {p : Nat → Prop} (h : l' = l.take i ++ l.drop (i + 1)) (hl : ∀ x ∈ l, p x) : ∀ x ∈ l', p x := by
  intro x hx
  rw [h] at hx
  rcases List.mem_append.1 hx with hx | hx
  · exact hl x (List.mem_of_mem_take hx)
  · exact hl x (List.mem_of_mem_drop hx)
end Go.Proofs.Ytmdnacboenehkaa
