/- A call on both indexes, the program's and the document's. No condition. -/
import Derived.Test.YtmdnacboenehkaaHashO
import Derived.Test.YtmdnacboenehkaaActs
import Derived.Deep.MidRow
namespace Go.Proofs.Ytmdnacboenehkaa
open Go.RowKit

/-- Both indexes, made since w1, apart from each other and from the block B. -/
def PG (w1 w : World) (b r : Nat) (I J : List (Nat × Nat)) (B : Nat) : Prop :=
  ∃ fp fq, Hx w b (sel I) fp ∧ Rf w r J fq ∧ (∀ k, fp k → ¬ fq k) ∧ (∀ k, fp k → w1.heap.size ≤ k) ∧ (∀ k, fq k → w1.heap.size ≤ k) ∧ Frm (fun _ => False) w1 w ∧ ¬ fp B ∧ ¬ fq B ∧ B < w.heap.size
section
variable {w1 w w' : World} {b r B n : Nat} {I J I' : List (Nat × Nat)} {e : Ending}
theorem PG.frm (h : PG w1 w b r I J B) : Frm (fun _ => False) w1 w := by
  obtain ⟨_, _, _, _, _, _, _, h6, _⟩ := h; exact h6
theorem PG.keep (h : PG w1 w b r I J B) (f : Frm (fun _ => False) w w') : PG w1 w' b r I J B := by
  obtain ⟨fp, fq, h1, h2, h3, h4, h5, h6, h7, h8, h9⟩ := h
  exact ⟨fp, fq, h1.keepF f, h2.keep f (fun _ _ h => h), h3, h4, h5, h6.trans f, h7, h8, Nat.lt_of_lt_of_le h9 f.size⟩
theorem PG.keepN {X : Nat → Prop} (h : PG w1 w b r I J B) (f : Frm X w w') (hx : ∀ k, X k → w.heap.size ≤ k) : PG w1 w' b r I J B := by
  obtain ⟨fp, fq, h1, h2, h3, h4, h5, h6, h7, h8, h9⟩ := h
  exact ⟨fp, fq, h1.keep f (fun k hk e => by have := h1.1 k hk; have := hx k e; omega), h2.keep f (fun k hk e => by have := h2.1 k hk; have := hx k e; omega), h3, h4, h5, h6.next f (fun k hk e => by have := hx k e; have := h6.size; omega), h7, h8, Nat.lt_of_lt_of_le h9 f.size⟩
/-- Another block to be apart from: a new one. -/
theorem PG.guest (h : PG w1 w b r I J B) (f : Frm (fun _ => False) w w') (h2 : w.heap.size < w'.heap.size) : PG w1 w' b r I J w.heap.size := by
  obtain ⟨fp, fq, a1, a2, a3, a4, a5, a6, _, _, _⟩ := h
  exact ⟨fp, fq, a1.keepF f, a2.keep f (fun _ _ h => h), a3, a4, a5, a6.trans f, fun e => by have := a1.1 _ e; omega, fun e => by have := a2.1 _ e; omega, h2⟩
theorem PG.leave {B' : Nat} (h : PG w1 w b r I J B) (hB : B' < w1.heap.size) : PG w1 w b r I J B' := by
  obtain ⟨fp, fq, a1, a2, a3, a4, a5, a6, _, _, _⟩ := h
  exact ⟨fp, fq, a1, a2, a3, a4, a5, a6, fun e => by have := a4 _ e; omega, fun e => by have := a5 _ e; omega, Nat.lt_of_lt_of_le hB a6.size⟩
theorem PG.hx {fp fq : Nat → Prop} (h2 : Rf w r J fq) (h3 : ∀ k, fp k → ¬ fq k) (h4 : ∀ k, fp k → w1.heap.size ≤ k) (h5 : ∀ k, fq k → w1.heap.size ≤ k) (h6 : Frm (fun _ => False) w1 w) (h7 : ¬ fp B) (h8 : ¬ fq B) (h9 : B < w.heap.size)
    (h : HxTo b (sel I') fp n w e w') : e = .returned (.int .i64 n) ∧ PG w1 w' b r I' J B ∧ w'.heap[B]? = w.heap[B]? := by
  obtain ⟨he, fp', a1, a2, a3⟩ := h
  refine ⟨he, ⟨fp', fq, a1, h2.keep a2 (fun k hk e => h3 k e hk), fun k hk hq => ?_, fun k hk => (a3 k hk).elim (h4 k) (fun e => Nat.le_trans h6.size e), h5, h6.next a2 (fun k hk e => by have := h4 k e; omega), fun hB => ?_, h8, Nat.lt_of_lt_of_le h9 a2.size⟩, a2.block B h9 h7⟩
  · rcases a3 k hk with e | e
    · exact h3 k e hq
    · have := h2.1 k hq; omega
  · rcases a3 B hB with e | e
    · exact h7 e
    · omega
theorem PG.rf {fp fq : Nat → Prop} (h1 : Hx w b (sel I) fp) (h3 : ∀ k, fp k → ¬ fq k) (h4 : ∀ k, fp k → w1.heap.size ≤ k) (h5 : ∀ k, fq k → w1.heap.size ≤ k) (h6 : Frm (fun _ => False) w1 w) (h7 : ¬ fp B) (h8 : ¬ fq B) (h9 : B < w.heap.size)
    (h : RfTo r I' fq n w e w') : e = .returned (.int .i64 n) ∧ PG w1 w' b r I I' B ∧ w'.heap[B]? = w.heap[B]? := by
  obtain ⟨he, fq', a1, a2, a3⟩ := h
  refine ⟨he, ⟨fp, fq', h1.keep a2 (fun k hk e => h3 k hk e), a1, fun k hk hq => ?_, h4, fun k hk => (a3 k hk).elim (h5 k) (fun e => Nat.le_trans h6.size e), h6.next a2 (fun k hk e => by have := h5 k e; omega), h7, fun hB => ?_, Nat.lt_of_lt_of_le h9 a2.size⟩, a2.block B h9 h8⟩
  · rcases a3 k hq with e | e
    · exact h3 k hk e
    · have := h1.1 k hk; omega
  · rcases a3 B hB with e | e
    · exact h8 e
    · omega
end
section
variable (w1 w : World) (b r B : Nat) (I J : List (Nat × Nat)) (s : List UInt8) (x : Nat) (h : PG w1 w b r I J B) (hs : s.length ≤ 9223372036854775807)
include h hs
theorem add_pg (hl : I.length ≤ 900000) : Calls Try.prog 17 #[.pointer (some ⟨b, 0, none⟩), .string (bs s), .int .u32 x] w fun e w' => e = .returned (.int .i64 (addR I (bk s) x)) ∧ PG w1 w' b r (addI I (bk s) x) J B ∧ w'.heap[B]? = w.heap[B]? := by
  obtain ⟨fp, fq, h1, h2, h3, h4, h5, h6, h7, h8, h9⟩ := h
  exact (add_any b s x I fp w h1 hs hl).mono fun e w' r => PG.hx h2 h3 h4 h5 h6 h7 h8 h9 r
theorem drop_pg (hl : I.length ≤ 900000) : Calls Try.prog 19 #[.pointer (some ⟨b, 0, none⟩), .string (bs s), .int .u32 x] w fun e w' => e = .returned (.int .i64 (dropR I (bk s) x)) ∧ PG w1 w' b r (I.erase (bk s, x)) J B ∧ w'.heap[B]? = w.heap[B]? := by
  obtain ⟨fp, fq, h1, h2, h3, h4, h5, h6, h7, h8, h9⟩ := h
  exact (drop_any b s x I fp w h1 hs hl).mono fun e w' r => PG.hx h2 h3 h4 h5 h6 h7 h8 h9 r
theorem radd_pg (hl : J.length ≤ 900000) : Calls Try.prog 22 #[.pointer (some ⟨r, 0, none⟩), .string (bs s), .int .u32 x] w fun e w' => e = .returned (.int .i64 (addR J (bk s) x)) ∧ PG w1 w' b r I (addI J (bk s) x) B ∧ w'.heap[B]? = w.heap[B]? := by
  obtain ⟨fp, fq, h1, h2, h3, h4, h5, h6, h7, h8, h9⟩ := h
  exact (radd_any r J fq s x w h2 hs hl).mono fun e w' r => PG.rf h1 h3 h4 h5 h6 h7 h8 h9 r
theorem rdrop_pg (hl : J.length ≤ 900000) : Calls Try.prog 23 #[.pointer (some ⟨r, 0, none⟩), .string (bs s), .int .u32 x] w fun e w' => e = .returned (.int .i64 (dropR J (bk s) x)) ∧ PG w1 w' b r I (J.erase (bk s, x)) B ∧ w'.heap[B]? = w.heap[B]? := by
  obtain ⟨fp, fq, h1, h2, h3, h4, h5, h6, h7, h8, h9⟩ := h
  exact (rdrop_any r J fq s x w h2 hs hl).mono fun e w' r => PG.rf h1 h3 h4 h5 h6 h7 h8 h9 r
theorem find_pg (hl : I.length ≤ 900000) : Calls Try.prog 24 #[.pointer (some ⟨b, 0, none⟩), .string (bs s)] w (NewIds (sel I (bk s)) w) := by
  obtain ⟨fp, fq, h1, _⟩ := h
  exact find_any b s (sel I) fp w h1 hs (Nat.le_trans (sel_len I (bk s)) (by omega))
theorem rfind_pg (hl : J.length ≤ 900000) : Calls Try.prog 25 #[.pointer (some ⟨r, 0, none⟩), .string (bs s)] w (NewIds (sel J (bk s)) w) := by
  obtain ⟨fp, fq, _, h2, _⟩ := h
  exact rfind_any r J fq s w h2 hs hl
end
theorem len_pg (w1 w : World) (b r B : Nat) (I J : List (Nat × Nat)) (h : PG w1 w b r I J B) (hl : I.length ≤ 900000) (hI : ∀ p ∈ I, p.1 < 16) :
    Calls Try.prog 13 #[.pointer (some ⟨b, 0, none⟩)] w fun e w' => e = .returned (.int .i64 I.length) ∧ Frm (fun _ => False) w w' := by
  obtain ⟨fp, fq, h1, _⟩ := h
  have ht := allF_total I hI
  refine (len_any b (sel I) fp w h1 (fun i _ => Nat.le_trans (sel_len I i) (by omega)) (by omega)).mono fun _ _ ⟨a, c⟩ => ?_
  rw [ht] at a
  exact ⟨a, c⟩
theorem of_pg (w1 w : World) (b r B k0 : Nat) (I J : List (Nat × Nat)) (h : PG w1 w b r I J B) (hl : J.length ≤ 900000) :
    Calls Try.prog 14 #[.pointer (some ⟨r, 0, none⟩), .int .i64 k0] w (NewIds (sel J k0) w) := by
  obtain ⟨fp, fq, _, h2, _⟩ := h
  exact of_any r k0 J fq w h2 hl
theorem PG.items {w1 w : World} {b r B : Nat} {I J : List (Nat × Nat)} (h : PG w1 w b r I J B) : ∃ a cap, w.cell? ⟨r, 0, none⟩ = some (.slice a J.length cap) := by
  obtain ⟨fp, fq, _, ⟨_, _, v, hb, ho, _⟩, _⟩ := h
  obtain ⟨a, cap, rfl, _, _⟩ := Row.slice ho
  exact ⟨a, cap, hb.cell 0 rfl⟩
theorem gives_pg (w1 w : World) (b r B : Nat) (I J : List (Nat × Nat)) (h : PG w1 w b r I J B) (hl : I.length ≤ 900000) : Gives (some ⟨b, 0, none⟩) w.heap.size (allF (sel I) 16) (part (sel I)) w := by
  obtain ⟨fp, fq, h1, _⟩ := h
  exact gives_index b w.heap.size (sel I) fp w h1 h1.1 (fun i _ => Nat.le_trans (sel_len I i) (by omega))
theorem PG.start {w1 w : World} {B : Nat} (f : Frm (fun _ => False) w1 w) (h : Hx w w1.heap.size (fun _ => []) (· = w1.heap.size)) (hB : B < w1.heap.size) :
    PG w1 (w.alloc (.cells #[.slice none 0 0] 33)) w1.heap.size w.heap.size [] [] B := by
  have hlt := h.lt
  have fa : Frm (fun _ => False) w (w.alloc (.cells #[.slice none 0 0] 33)) := (Frm.refl _ w).alloc _
  refine ⟨_, (· = w.heap.size), h.keepF fa, ⟨fun k hk => by rw [hk]; simp, rfl, .slice none 0 0, Blk.alloc w _ _, Row.nil_ _ 2, fun g hg => (by cases hg)⟩, fun k hk hk2 => by omega, fun k hk => by omega, fun k hk => by rw [hk]; exact f.size, f.trans fa, fun e => by omega, fun e => by have := f.size; omega, by have := f.size; simp; omega⟩
/-- The last one's bucket. -/
def lastB (pre : List (Nat × Nat)) : Nat := (pre.getLast?.map (·.1)).getD 0
theorem lastB_nil : lastB [] = 0 := rfl
theorem lastB_snoc (pre : List (Nat × Nat)) (x : Nat × Nat) : lastB (pre ++ [x]) = x.1 := by simp [lastB]
theorem asc_last {pre : List (Nat × Nat)} (h : Asc pre) : ∀ p ∈ pre, p.1 ≤ lastB pre := by
  rcases List.eq_nil_or_concat pre with rfl | ⟨q, y, rfl⟩
  · intro p hp; cases hp
  · rw [List.concat_eq_append] at *
    intro p hp
    rw [lastB_snoc]
    rcases List.mem_append.1 hp with hp | hp
    · exact (List.pairwise_append.1 h).2.2 p hp y (by simp)
    · obtain rfl : p = y := by simpa using hp
      exact Nat.le_refl _
theorem asc_snoc {pre : List (Nat × Nat)} {x : Nat × Nat} (h : Asc pre) (hx : lastB pre ≤ x.1) : Asc (pre ++ [x]) :=
  List.pairwise_append.2 ⟨h, List.pairwise_singleton _ _, fun p hp q hq => by
    obtain rfl : q = x := by simpa using hq
    exact Nat.le_trans (asc_last h p hp) hx⟩
/-- Ascending buckets, all below 16. -/
def Fine (pre : List (Nat × Nat)) : Prop := Asc pre ∧ ∀ p ∈ pre, p.1 < 16
theorem Fine.snoc {pre : List (Nat × Nat)} {x : Nat × Nat} (h : Fine pre) (h1 : lastB pre ≤ x.1) (h2 : x.1 < 16) : Fine (pre ++ [x]) :=
  ⟨asc_snoc h.1 h1, fun p hp => by
    rcases List.mem_append.1 hp with hp | hp
    · exact h.2 p hp
    · obtain rfl : p = x := by simpa using hp
      exact h2⟩
theorem not_fine_last {pre : List (Nat × Nat)} {x : Nat × Nat} (h1 : x.1 < lastB pre) : ¬ Fine (pre ++ [x]) := fun h => by
  rcases List.eq_nil_or_concat pre with rfl | ⟨q, y, rfl⟩
  · rw [lastB_nil] at h1; omega
  · rw [List.concat_eq_append] at *
    rw [lastB_snoc] at h1
    have := (List.pairwise_append.1 h.1).2.2 y (by simp) x (by simp)
    omega
theorem not_fine_great {pre : List (Nat × Nat)} {x : Nat × Nat} (h1 : 15 < x.1) : ¬ Fine (pre ++ [x]) := fun h => by
  have := h.2 x (by simp); omega
theorem fine_part {L : Nat → List Nat} {pre : List (Nat × Nat)} (h : part L pre) : Fine pre :=
  ⟨(allF_asc L 16).sublist h.1.sublist, fun _ hp => allF_lt (h.1.subset hp)⟩
/-- Between two rounds: what has come, by ascending buckets, and the last one's bucket. -/
structure PlI (wq : World) (lb : Nat) (pre : List (Nat × Nat)) (W : World) : Prop where
  fine : Fine pre
  got : ∃ v, Blk W wq.heap.size 39 #[v] ∧ Own W v (pre.map (·.2)) ∧ ∀ g, v.ownBlock = some g → lb < g
  last : Blk W lb 5 #[.int .u8 (lastB pre)]
  frm : Frm (fun _ => False) wq W
theorem PlI.own (wq : World) (lb B : Nat) (hB : wq.heap.size ≤ B) : OwnFrom B (PlI wq lb) := fun _ _ _ _ h hg hr => by
  have hr2 := fun r e => (hr r e).2
  obtain ⟨v, h1, h2, h3⟩ := h.got
  exact ⟨h.fine, ⟨v, h1.turned hg hr2, Row.turned h2 hg hr2, h3⟩, h.last.turned hg hr2, h.frm.turned hB hg hr⟩
theorem Frm.others {X : Nat → Prop} {w w' : World} (h : Frm X w w') (hx : ∀ k o, X k → w.heap[k]? = some o → o.isCells = true) : KeepsOthers w w' :=
  ⟨h.size, fun k o hk ho => by
    refine (h.block k (Array.getElem?_eq_some_iff.1 hk).1 fun hX => ?_).trans hk
    rw [hx k o hX hk] at ho; cases ho⟩
theorem Blk.isCells {w : World} {b : Nat} {t : TypeId} {cs : Array Value} (h : Blk w b t cs) : ∀ k o, k = b → w.heap[k]? = some o → o.isCells = true := by
  rintro k o rfl ho
  rw [h] at ho
  cases ho
  rfl
/-- A round of HashPlays that goes on: what is read, and what is left. -/
theorem PlI.step {wq W : World} {lb : Nat} {pre : List (Nat × Nat)} {x : Nat × Nat} (h : PlI wq lb pre W) (hlb : wq.heap.size < lb) (hf : Fine (pre ++ [x])) (hlen : pre.length ≤ 1000) :
    ∃ av n cv a6 c6 W6, W.cell? ⟨wq.heap.size, 0, none⟩ = some (.slice av n cv) ∧ (W.setCell ⟨lb, 0, none⟩ (.int .u8 x.1)).cell? ⟨wq.heap.size, 0, none⟩ = some (.slice av n cv) ∧
      (Builtin.append_ #[39, 39] 39 #[.slice av n cv, .slice (some ⟨W.heap.size, 0, none⟩) 1 1]).run Try.prog ((W.setCell ⟨lb, 0, none⟩ (.int .u8 x.1)).alloc (.cells #[.int .u32 x.2] 35)) = .ok (.slice a6 (n + 1) c6) W6 ∧
      W6.cell? ⟨wq.heap.size, 0, none⟩ = some (.slice av n cv) ∧ W6.frozen? ⟨wq.heap.size, 0, none⟩ = false ∧ KeepsOthers W (W6.setCell ⟨wq.heap.size, 0, none⟩ (.slice a6 (n + 1) c6)) ∧ kept wq.heap.size W (W6.setCell ⟨wq.heap.size, 0, none⟩ (.slice a6 (n + 1) c6)) ∧
      PlI wq lb (pre ++ [x]) (W6.setCell ⟨wq.heap.size, 0, none⟩ (.slice a6 (n + 1) c6)) := by
  obtain ⟨hfine, ⟨v, hbg, hov, hvn⟩, hbl, hfr⟩ := h
  obtain ⟨av, cv, rfl, hcv1, hcv2⟩ := Row.slice hov
  obtain ⟨q, hq⟩ : ∃ q, pre.map (·.2) = q := ⟨_, rfl⟩
  rw [hq] at hbg hov hvn
  have hql : q.length ≤ 1000 := by rw [← hq, List.length_map]; exact hlen
  have hvl : Value.ownBlock (.slice av q.length cv) ≠ some lb := fun e => by have := hvn lb e; omega
  have hvg : Value.ownBlock (.slice av q.length cv) ≠ some wq.heap.size := fun e => by have := hvn _ e; omega
  have hgl : wq.heap.size ≠ lb := by omega
  have hlt := hbl.lt
  have hb1 : Blk (W.setCell ⟨lb, 0, none⟩ (.int .u8 x.1)) wq.heap.size 39 #[.slice av q.length cv] := hbg.other (p := ⟨lb, 0, none⟩) hgl _
  have ho1 : Own (W.setCell ⟨lb, 0, none⟩ (.int .u8 x.1)) (.slice av q.length cv) q := Row.setOther (p := ⟨lb, 0, none⟩) hov hvl _
  have hl1 : Blk (W.setCell ⟨lb, 0, none⟩ (.int .u8 x.1)) lb 5 #[.int .u8 x.1] := hbl.set 0 _
  have f1 : Frm (fun k => k = lb ∨ k = wq.heap.size ∨ Value.ownBlock (.slice av q.length cv) = some k) W (W.setCell ⟨lb, 0, none⟩ (.int .u8 x.1)) := (Frm.refl _ W).setCell (p := ⟨lb, 0, none⟩) (fun _ => .inl rfl) _
  have hs1 : (W.setCell ⟨lb, 0, none⟩ (.int .u8 x.1)).heap.size = W.heap.size := by simp [World.setCell]
  have fa := (Frm.refl (fun _ => False) (W.setCell ⟨lb, 0, none⟩ (.int .u8 x.1))).alloc (.cells #[.int .u32 x.2] 35)
  have hone := Ids.one (W.setCell ⟨lb, 0, none⟩ (.int .u8 x.1)) x.2
  rw [hs1] at hone
  obtain ⟨v6, W6, hrun, hrow, hg, ho⟩ := append_ids _ _ _ q [x.2] (ho1.keep fa (fun _ _ h => h)) hone (by simp; omega)
  obtain ⟨a6, c6, rfl, _, _⟩ := Row.slice hrow
  have el : (q ++ [x.2]).length = q.length + 1 := by simp
  rw [el] at hrow hrun ho
  have hb6 := (hb1.keep fa (fun h => h)).beside hg hvg
  have hl6 := (hl1.keep fa (fun h => h)).beside hg hvl
  have fX := ((f1.alloc (.cells #[.int .u32 x.2] 35)).grown hg (fun k _ e => .inr (.inr e))).setCell (p := ⟨wq.heap.size, 0, none⟩) (fun _ => .inr (.inl rfl)) (.slice a6 (q.length + 1) c6)
  have hX : ∀ k, (k = lb ∨ k = wq.heap.size ∨ Value.ownBlock (.slice av q.length cv) = some k) → wq.heap.size ≤ k := fun k hk => by
    rcases hk with rfl | rfl | e
    · omega
    · omega
    · have := hvn k e; omega
  have h6n : ∀ g, Value.ownBlock (.slice a6 (q.length + 1) c6) = some g → lb < g := fun g hg2 => (ho g hg2).elim (hvn g) (fun e => by rw [World.size_alloc, hs1] at e; omega)
  refine ⟨av, q.length, cv, a6, c6, W6, hbg.cell 0 rfl, hb1.cell 0 rfl, hrun, hb6.cell 0 rfl, hb6.free 0, fX.others (fun k o hk ho2 => ?_), fun k hk => ?_, hf, ⟨_, hb6.set 0 _, ?_, h6n⟩, ?_, ?_⟩
  · rcases hk with e | e | e
    · exact hbl.isCells k o e ho2
    · exact hbg.isCells k o e ho2
    · obtain ⟨o', q1, q2⟩ := Row.isC hov k e
      rw [q1] at ho2; cases ho2; exact q2
  · rcases Nat.lt_or_ge k W.heap.size with hk2 | hk2
    · exact fX.block k hk2 (fun e => by have := hX k e; omega)
    · omega
  · rw [List.map_append, hq]
    exact Row.setOther (p := ⟨wq.heap.size, 0, none⟩) hrow (fun e => by have h := h6n wq.heap.size e; omega) _
  · rw [lastB_snoc]
    exact hl6.other (p := ⟨wq.heap.size, 0, none⟩) (Ne.symm hgl) _
  · exact hfr.next fX (fun k hk e => by have := hX k e; omega)
/-- A call: what it makes of the items. -/
def stepI (I : List (Nat × Nat)) (a : ActI) : List (Nat × Nat) := if a.k % 3 = 0 then addI I (bk a.s) a.n else if a.k % 3 = 1 then I.erase (bk a.s, a.n) else I
theorem stepI_len (I : List (Nat × Nat)) (a : ActI) : (stepI I a).length ≤ I.length + 1 := by
  unfold stepI addI
  split
  · split
    · omega
    · simp
  · split
    · have := List.length_erase_le (a := (bk a.s, a.n)) (l := I); omega
    · omega
theorem stepI_lt (I : List (Nat × Nat)) (a : ActI) (h : ∀ p ∈ I, p.1 < 16) : ∀ p ∈ stepI I a, p.1 < 16 := by
  unfold stepI addI
  split
  · split
    · exact h
    · intro p hp
      rcases List.mem_append.1 hp with hp | hp
      · exact h p hp
      · obtain rfl : p = (bk a.s, a.n) := by simpa using hp
        exact bk_lt _
  · split
    · exact fun p hp => h p (List.mem_of_mem_erase hp)
    · exact h

set_option maxRecDepth 100000 in
set_option maxHeartbeats 2000000 in
theorem one_any (w1 w : World) (b r B : Nat) (I : List (Nat × Nat)) (a : ActI) (h : PG w1 w b r I I B) (hs : a.s.length ≤ 300) (hl : I.length ≤ 200) (hk : a.k < 256) (hB1 : B < w1.heap.size) :
    Calls Try.prog 12 #[.pointer (some ⟨b, 0, none⟩), .pointer (some ⟨r, 0, none⟩), .agg #[.int .u8 a.k, .string (bs a.s), .int .u32 a.n]] w fun e w' => e = .returned (.bool true) ∧ PG w1 w' b r (stepI I a) (stepI I a) B := by
  obtain ⟨c, hc⟩ : ∃ c, a.k % 3 = c := ⟨_, rfl⟩
  have hc3 : c < 3 := by omega
  have Hc := Lib.hid hc
  clear hc
  have hbox := Blk.alloc w 37 #[.int .u8 a.k, .string (bs a.s), .int .u32 a.n]
  have fbox : Frm (fun _ => False) w (w.alloc (.cells #[.int .u8 a.k, .string (bs a.s), .int .u32 a.n] 37)) := (Frm.refl _ w).alloc _
  have hg := h.guest fbox (by simp)
  rcases (show c = 0 ∨ c = 1 ∨ c = 2 by omega) with rfl | rfl | rfl
  · have t0 : ((a.k : Int) % 3 == 0) = true := by rw [beq_iff_eq]; have := Hc.out; omega
    have e0 : stepI I a = addI I (bk a.s) a.n := by unfold stepI; rw [if_pos Hc.out]
    rw [e0]
    clear e0
    go_enter Try.func12, Try.ntmps12
    go_wp2_with fail
    generalize w.alloc (.cells #[.int .u8 a.k, .string (bs a.s), .int .u32 a.n] 37) = w2 at *
    generalize w.heap.size = B2 at *
    have c0 : w2.cell? ⟨B2, 0, none⟩ = some (.int .u8 a.k) := hbox.cell 0 rfl
    have c1 : w2.cell? ⟨B2, 1, none⟩ = some (.string (bs a.s)) := hbox.cell 1 rfl
    have c2 : w2.cell? ⟨B2, 2, none⟩ = some (.int .u32 a.n) := hbox.cell 2 rfl
    refine (add_pg w1 w2 b r B2 I I a.s a.n hg (by omega) (by omega)).mono ?_
    rintro e w3 ⟨rfl, h3, hk3⟩
    have hb3 := hbox.keepAt hk3
    have d1 : w3.cell? ⟨B2, 1, none⟩ = some (.string (bs a.s)) := hb3.cell 1 rfl
    have d2 : w3.cell? ⟨B2, 2, none⟩ = some (.int .u32 a.n) := hb3.cell 2 rfl
    have hq : ((addR I (bk a.s) a.n : Int) == (addR I (bk a.s) a.n : Int)) = true := beq_self_eq_true _
    go_wp2_with fail
    refine (radd_pg w1 w3 b r B2 _ I a.s a.n h3 (by omega) (by omega)).mono ?_
    rintro e w4 ⟨rfl, h4, _⟩
    go_wp2_with fail
    go_ret
    exact ⟨rfl, h4.leave hB1⟩
  · have t0 : ((a.k : Int) % 3 == 0) = false := by rw [beq_eq_false_iff_ne]; have := Hc.out; omega
    have t1 : ((a.k : Int) % 3 == 1) = true := by rw [beq_iff_eq]; have := Hc.out; omega
    have e0 : stepI I a = I.erase (bk a.s, a.n) := by unfold stepI; rw [if_neg (by rw [Hc.out]; decide), if_pos Hc.out]
    rw [e0]
    clear e0
    go_enter Try.func12, Try.ntmps12
    go_wp2_with fail
    generalize w.alloc (.cells #[.int .u8 a.k, .string (bs a.s), .int .u32 a.n] 37) = w2 at *
    generalize w.heap.size = B2 at *
    have c0 : w2.cell? ⟨B2, 0, none⟩ = some (.int .u8 a.k) := hbox.cell 0 rfl
    have c1 : w2.cell? ⟨B2, 1, none⟩ = some (.string (bs a.s)) := hbox.cell 1 rfl
    have c2 : w2.cell? ⟨B2, 2, none⟩ = some (.int .u32 a.n) := hbox.cell 2 rfl
    refine (drop_pg w1 w2 b r B2 I I a.s a.n hg (by omega) (by omega)).mono ?_
    rintro e w3 ⟨rfl, h3, hk3⟩
    have hb3 := hbox.keepAt hk3
    have d1 : w3.cell? ⟨B2, 1, none⟩ = some (.string (bs a.s)) := hb3.cell 1 rfl
    have d2 : w3.cell? ⟨B2, 2, none⟩ = some (.int .u32 a.n) := hb3.cell 2 rfl
    have hq : ((dropR I (bk a.s) a.n : Int) == (dropR I (bk a.s) a.n : Int)) = true := beq_self_eq_true _
    go_wp2_with fail
    refine (rdrop_pg w1 w3 b r B2 _ I a.s a.n h3 (by omega) (by omega)).mono ?_
    rintro e w4 ⟨rfl, h4, _⟩
    go_wp2_with fail
    go_ret
    exact ⟨rfl, h4.leave hB1⟩
  · have t0 : ((a.k : Int) % 3 == 0) = false := by rw [beq_eq_false_iff_ne]; have := Hc.out; omega
    have t1 : ((a.k : Int) % 3 == 1) = false := by rw [beq_eq_false_iff_ne]; have := Hc.out; omega
    have e0 : stepI I a = I := by unfold stepI; rw [if_neg (by rw [Hc.out]; decide), if_neg (by rw [Hc.out]; decide)]
    rw [e0]
    clear e0
    go_enter Try.func12, Try.ntmps12
    go_wp2_with fail
    generalize w.alloc (.cells #[.int .u8 a.k, .string (bs a.s), .int .u32 a.n] 37) = w2 at *
    generalize w.heap.size = B2 at *
    have c0 : w2.cell? ⟨B2, 0, none⟩ = some (.int .u8 a.k) := hbox.cell 0 rfl
    have c1 : w2.cell? ⟨B2, 1, none⟩ = some (.string (bs a.s)) := hbox.cell 1 rfl
    have c2 : w2.cell? ⟨B2, 2, none⟩ = some (.int .u32 a.n) := hbox.cell 2 rfl
    refine (find_pg w1 w2 b r B2 I I a.s hg (by omega) (by omega)).mono ?_
    rintro e w3 ⟨v', rfl, o3, f3, n3⟩
    have hb3 := hbox.keep f3 (fun h => h)
    have d1 : w3.cell? ⟨B2, 1, none⟩ = some (.string (bs a.s)) := hb3.cell 1 rfl
    go_wp2_with fail
    refine (rfind_pg w1 w3 b r B2 I I a.s (hg.keep f3) (by omega) (by omega)).mono ?_
    rintro e w4 ⟨v4, rfl, o4, f4, n4⟩
    go_wp2_with fail
    refine (same_yes _ _ _ _ (o3.ids.keepF f4) o4.ids).mono ?_
    rintro e w5 ⟨rfl, f5⟩
    have o5 := o3.keep (f4.trans f5) (fun _ _ h => h)
    have h5 := hg.keep ((f3.trans f4).trans f5)
    obtain ⟨a3, cap3, rfl, hc1, hc2⟩ := Row.slice o3
    have hlen3 : (sel I (bk a.s)).length ≤ 200 := Nat.le_trans (sel_len I (bk a.s)) hl
    generalize sel I (bk a.s) = l at *
    have HW := Lib.hid o5
    have hn5 : ∀ g, Value.ownBlock (.slice a3 l.length cap3) = some g → w2.heap.size ≤ g := n3
    unfold maxLen at hc2
    clear c0 c1 c2 d1 o3 o4 hb3 n4
    go_wp2_with fail
    go_loopw [11] (fun i wr => ∃ k : Nat, k ≤ l.length ∧ i = .int .i64 k ∧ Frm (fun j => Value.ownBlock (.slice a3 l.length cap3) = some j) w5 wr ∧ ∀ j, j < l.length → ∃ g, a3 = some ⟨g, 0, none⟩ ∧ (wr.cell? ⟨g, j, none⟩).isSome = true ∧ wr.frozen? ⟨g, j, none⟩ = false) (fun i _ => l.length - (intOf i).toNat)
    case atStart =>
      refine ⟨0, Nat.zero_le _, rfl, Frm.refl _ _, fun j hj => ?_⟩
      rcases HW.out.2 with ⟨_, e⟩ | ⟨g, cap', e, q1, q2, q3, q4, q5⟩
      · omega
      · cases e
        obtain ⟨q6, q7⟩ := q5 j (by omega)
        exact ⟨g, rfl, q6, q7⟩
    case round =>
      obtain ⟨k, hk, rfl, g6, hall⟩ := hrel
      have Hall := Lib.hid hall
      clear hall
      by_cases hlt : k < l.length
      · obtain ⟨g, rfl, hsome, hfr⟩ := Hall.out k hlt
        obtain ⟨u, hu⟩ := Option.isSome_iff_exists.1 hsome
        clear hsome
        go_wp2_with fail
        go_roundw
        case rel =>
          refine ⟨k + 1, by omega, by go_num, g6.setCell (p := ⟨g, k, none⟩) (fun _ => rfl) _, fun j hj => ?_⟩
          obtain ⟨g', e, s1, s2⟩ := Hall.out j hj
          cases e
          exact ⟨g, rfl, World.isSome_setCells g [.int .u32 99] k wr ⟨g, j, none⟩ s1, by rw [World.frozen?_setCell]; exact s2⟩
        case measure => simp [intOf]; omega
      · obtain rfl : k = l.length := by omega
        go_wp2_with fail
        go_ret
        have fX := (((f3.trans f4).trans f5).mono (Y := fun j => Value.ownBlock (.slice a3 l.length cap3) = some j) (fun _ _ h => h.elim)).trans g6
        exact ⟨rfl, (hg.keepN fX hn5).leave hB1⟩
end Go.Proofs.Ytmdnacboenehkaa
