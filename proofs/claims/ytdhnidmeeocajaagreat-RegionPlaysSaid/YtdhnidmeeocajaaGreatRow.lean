/- The leaf calls of package codec: how many bytes a number's type has. No condition. -/
import Derived.Test.YtdhnidmeeocajaaGreatRows
import Derived.WalkKit
import Derived.WalkSpells
import Derived.WalkLawsBesides
import Derived.Test.YtdhnidmeeocajaaGreatDvM
import Derived.Lib.Strings
import Derived.Deep.Upon
import Derived.Deep.RegionLaw
import Derived.RangeFuncOwn
section
namespace Go.Proofs.YtdhnidmeeocajaaGreat
open Go.RowKit
theorem ret_int {k : IntKind} {a b : Int} (h : a = b) : Ending.returned (.int k a) = .returned (.int k b) := by rw [h]
set_option maxRecDepth 100000 in
set_option maxHeartbeats 400000 in
theorem len8 (w : World) : Calls Tryz.prog 148 #[.int .u32 255] w fun e w' => e = .returned (.int .i64 8) ∧ w = w' := by
  go_enter Tryz.func148, Tryz.ntmps148
  go_wp2_with fail
  go_ret
  exact ⟨by kernel_rfl, rfl⟩
set_option maxRecDepth 100000 in
set_option maxHeartbeats 400000 in
theorem len16 (w : World) : Calls Tryz.prog 148 #[.int .u32 65535] w fun e w' => e = .returned (.int .i64 16) ∧ w = w' := by
  go_enter Tryz.func148, Tryz.ntmps148
  go_wp2_with fail
  go_ret
  exact ⟨by kernel_rfl, rfl⟩
set_option maxRecDepth 100000 in
set_option maxHeartbeats 400000 in
theorem len32 (w : World) : Calls Tryz.prog 148 #[.int .u32 4294967295] w fun e w' => e = .returned (.int .i64 32) ∧ w = w' := by
  go_enter Tryz.func148, Tryz.ntmps148
  go_wp2_with fail
  go_ret
  exact ⟨by kernel_rfl, rfl⟩
set_option maxHeartbeats 400000 in
theorem width8 (w : World) : Calls Tryz.prog 147 #[] w fun e w' => e = .returned (.int .i64 1) ∧ w = w' := by
  go_enter Tryz.func147, Tryz.ntmps147
  go_wp2_with (go_at_call 148; refine (len8 _).mono ?_; rintro e w' ⟨rfl, rfl⟩)
  go_ret
  exact ⟨by kernel_rfl, rfl⟩
set_option maxHeartbeats 400000 in
theorem width16 (w : World) : Calls Tryz.prog 146 #[] w fun e w' => e = .returned (.int .i64 2) ∧ w = w' := by
  go_enter Tryz.func146, Tryz.ntmps146
  go_wp2_with (go_at_call 148; refine (len16 _).mono ?_; rintro e w' ⟨rfl, rfl⟩)
  go_ret
  exact ⟨by kernel_rfl, rfl⟩
set_option maxHeartbeats 400000 in
theorem width32 (w : World) : Calls Tryz.prog 139 #[] w fun e w' => e = .returned (.int .i64 4) ∧ w = w' := by
  go_enter Tryz.func139, Tryz.ntmps139
  go_wp2_with (go_at_call 148; refine (len32 _).mono ?_; rintro e w' ⟨rfl, rfl⟩)
  go_ret
  exact ⟨by kernel_rfl, rfl⟩
end Go.Proofs.YtdhnidmeeocajaaGreat
end
section
namespace Go.Proofs.YtdhnidmeeocajaaGreat
open Go.RowKit
/-- A reader: what is left, and its error. -/
structure Rd (w : World) (b : Nat) (l : List UInt8) (e : Nat) : Prop where
  blk : Blk w b 173 #[.string (bs l), .int .i64 e]
  len : l.length ≤ 140737488355328
  err : e ≤ 17

theorem Rd.c0 {w : World} {b : Nat} {l : List UInt8} {e : Nat} (h : Rd w b l e) : w.cell? ⟨b, 0, none⟩ = some (.string (bs l)) := h.blk.cell 0 rfl
theorem Rd.c1 {w : World} {b : Nat} {l : List UInt8} {e : Nat} (h : Rd w b l e) : w.cell? ⟨b, 1, none⟩ = some (.int .i64 e) := h.blk.cell 1 rfl
theorem Rd.keep {X : Nat → Prop} {w w' : World} {b : Nat} {l : List UInt8} {e : Nat} (h : Rd w b l e) (hf : Frm X w w') (hn : ¬ X b) : Rd w' b l e := ⟨h.blk.keep hf hn, h.len, h.err⟩
theorem Rd.lt {w : World} {b : Nat} {l : List UInt8} {e : Nat} (h : Rd w b l e) : b < w.heap.size := h.blk.lt
theorem Frm.one (b i : Nat) (u : Value) (w : World) : Frm (· = b) w (w.setCell ⟨b, i, none⟩ u) := (Frm.refl (· = b) w).setCell (p := ⟨b, i, none⟩) (fun _ => rfl) u
theorem Rd.rest {w : World} {b : Nat} {l : List UInt8} {e : Nat} (h : Rd w b l e) (k : Nat) : Rd (w.setCell ⟨b, 0, none⟩ (.string (bs (l.drop k)))) b (l.drop k) e :=
  ⟨h.blk.set 0 _, by have := h.len; rw [List.length_drop]; omega, h.err⟩

set_option maxHeartbeats 400000 in
theorem fail_first (b : Nat) (l : List UInt8) (x : Nat) (w : World) (h : Rd w b l 0) (hx : x ≤ 17) :
    Calls Tryz.prog 140 #[.pointer (some ⟨b, 0, none⟩), .int .i64 x] w fun e w' => e = .returned (.tuple #[]) ∧ Rd w' b [] x ∧ Frm (· = b) w w' := by
  have c0 := h.c0
  have c1 := h.c1
  have f0 := h.blk.free 0
  have f1 := h.blk.free 1
  go_enter Tryz.func140, Tryz.ntmps140
  go_wp2
  go_end0
  exact ⟨rfl, ⟨(h.blk.set 0 (.string ⟨#[]⟩)).set 1 (.int .i64 x), by simp, hx⟩, (Frm.one _ _ _ _).trans (Frm.one _ _ _ _)⟩

set_option maxHeartbeats 400000 in
theorem fail_later (b : Nat) (l : List UInt8) (x e : Nat) (w : World) (h : Rd w b l e) (he : e ≠ 0) :
    Calls Tryz.prog 140 #[.pointer (some ⟨b, 0, none⟩), .int .i64 x] w fun e w' => e = .returned (.tuple #[]) ∧ w = w' := by
  have c0 := h.c0
  have c1 := h.c1
  have he' : ((e : Int) == 0) = false := by simpa using he
  go_enter Tryz.func140, Tryz.ntmps140
  go_wp2
  go_end0
  exact ⟨rfl, rfl⟩

theorem ret_str {a b : ByteArray} (h : a = b) : Ending.returned (.string a) = .returned (.string b) := by rw [h]

set_option maxHeartbeats 400000 in
theorem next_ok (b : Nat) (l : List UInt8) (e : Nat) (n : Nat) (w : World) (h : Rd w b l e) (hn : n ≤ l.length) :
    Calls Tryz.prog 124 #[.pointer (some ⟨b, 0, none⟩), .int .u64 n] w fun r w' => r = .returned (.string (bs (l.take n))) ∧ Rd w' b (l.drop n) e ∧ Frm (· = b) w w' := by
  have c0 := h.c0
  have f0 := h.blk.free 0
  have hl := h.len
  have hz := bs_size l
  have hn1 : n ≤ (bs l).size := by rw [hz]; exact hn
  have hn2 : (bs l).size ≤ 140737488355328 := by rw [hz]; exact hl
  clear hz
  go_enter Tryz.func124, Tryz.ntmps124
  go_wp2
  go_ret
  exact ⟨ret_str (bs_take l n), by rw [bs_drop]; exact h.rest n, Frm.one _ _ _ _⟩

set_option maxHeartbeats 400000 in
theorem next_torn (b : Nat) (l : List UInt8) (n : Nat) (w : World) (h : Rd w b l 0) (hn : l.length < n) (_hn3 : n ≤ 18446744073709551615) :
    Calls Tryz.prog 124 #[.pointer (some ⟨b, 0, none⟩), .int .u64 n] w fun r w' => r = .returned (.string (bs [])) ∧ Rd w' b [] 10 ∧ Frm (· = b) w w' := by
  have c0 := h.c0
  have hl := h.len
  have hz := bs_size l
  have hn1 : (bs l).size < n := by rw [hz]; exact hn
  have hn2 : (bs l).size ≤ 140737488355328 := by rw [hz]; exact hl
  clear hz
  go_enter Tryz.func124, Tryz.ntmps124
  go_wp2_with (go_at_call 140; refine (fail_first b l 10 _ h (by omega)).mono ?_; rintro e w' ⟨rfl, h1, h2⟩)
  go_ret
  exact ⟨rfl, h1, h2⟩

set_option maxHeartbeats 400000 in
theorem next_later (b : Nat) (l : List UInt8) (e n : Nat) (w : World) (h : Rd w b l e) (he : e ≠ 0) (hn : l.length < n) (_hn3 : n ≤ 18446744073709551615) :
    Calls Tryz.prog 124 #[.pointer (some ⟨b, 0, none⟩), .int .u64 n] w fun r w' => r = .returned (.string (bs [])) ∧ w = w' := by
  have c0 := h.c0
  have hl := h.len
  have hz := bs_size l
  have hn1 : (bs l).size < n := by rw [hz]; exact hn
  have hn2 : (bs l).size ≤ 140737488355328 := by rw [hz]; exact hl
  clear hz
  go_enter Tryz.func124, Tryz.ntmps124
  go_wp2_with (go_at_call 140; refine (fail_later b l 10 e _ h he).mono ?_; rintro e w' ⟨rfl, rfl⟩)
  go_ret
  exact ⟨rfl, rfl⟩

/-- What 'n bytes are read' does: what is handed back, what is left, the error. -/
def nextS (n : Nat) (l : List UInt8) (e : Nat) : List UInt8 × List UInt8 × Nat :=
  if n ≤ l.length then (l.take n, l.drop n, e) else ([], if e = 0 then ([], 10) else (l, e))

theorem next_any (b : Nat) (l : List UInt8) (e n : Nat) (w : World) (h : Rd w b l e) (hn : n ≤ 18446744073709551615) :
    Calls Tryz.prog 124 #[.pointer (some ⟨b, 0, none⟩), .int .u64 n] w fun r w' =>
      r = .returned (.string (bs (nextS n l e).1)) ∧ Rd w' b (nextS n l e).2.1 (nextS n l e).2.2 ∧ Frm (· = b) w w' := by
  unfold nextS
  by_cases hl : n ≤ l.length
  · rw [if_pos hl]
    exact next_ok b l e n w h hl
  · rw [if_neg hl]
    by_cases he : e = 0
    · subst he
      rw [if_pos rfl]
      exact next_torn b l n w h (by omega) hn
    · rw [if_neg he]
      exact (next_later b l e n w h he (by omega) hn).mono fun r w' ⟨h1, h2⟩ => by subst h2; exact ⟨h1, h, Frm.refl _ _⟩

set_option maxHeartbeats 400000 in
theorem fixed_pos (b : Nat) (l : List UInt8) (e : Nat) (n : Nat) (w : World) (h : Rd w b l e) (hn : n ≤ 9223372036854775807) :
    Calls Tryz.prog 101 #[.pointer (some ⟨b, 0, none⟩), .int .i64 n] w fun r w' =>
      r = .returned (.string (bs (nextS n l e).1)) ∧ Rd w' b (nextS n l e).2.1 (nextS n l e).2.2 ∧ Frm (· = b) w w' := by
  go_enter Tryz.func101, Tryz.ntmps101
  go_wp2_with (go_at_call 124; refine (next_any b l e n _ h (by omega)).mono ?_; rintro r w' ⟨rfl, h1, h2⟩)
  go_ret
  exact ⟨rfl, h1, h2⟩
end Go.Proofs.YtdhnidmeeocajaaGreat
end
section
namespace Go.Proofs.YtdhnidmeeocajaaGreat
open Go.RowKit

/-- The slice value v has n elements, of size cells each, these are the cells xs, and no cell up to its capacity is frozen. -/
def Row (w : World) (size : Nat) (v : Value) (n : Nat) (xs : List Value) : Prop :=
  xs.length = n * size ∧ ((v = .slice none 0 0 ∧ n = 0) ∨
    ∃ g cap, v = .slice (some ⟨g, 0, none⟩) n cap ∧ n ≤ cap ∧ cap ≤ maxLen ∧ (∃ o : Obj, w.heap[g]? = some o ∧ o.isCells = true) ∧ (∀ j, j < n * size → w.cell? ⟨g, j, none⟩ = xs[j]?) ∧
      (∀ j, j < cap * size → (w.cell? ⟨g, j, none⟩).isSome = true ∧ w.frozen? ⟨g, j, none⟩ = false))

section
variable {w w' : World} {size n : Nat} {v : Value} {xs : List Value}
theorem Row.nil_ (w : World) (size : Nat) : Row w size (.slice none 0 0) 0 [] := ⟨by simp, .inl ⟨rfl, rfl⟩⟩
theorem Row.blk (h : Row w size v n xs) : ∀ g, v.ownBlock = some g → g < w.heap.size := by
  intro g hg
  rcases h.2 with ⟨rfl, _⟩ | ⟨g', cap, rfl, _, _, hlt, _⟩
  · cases hg
  · cases hg
    obtain ⟨o, ho, _⟩ := hlt
    exact (Array.getElem?_eq_some_iff.1 ho).1
theorem Row.keepB (h : Row w size v n xs) (hb : ∀ g, v.ownBlock = some g → w'.heap[g]? = w.heap[g]?) : Row w' size v n xs := by
  refine ⟨h.1, ?_⟩
  rcases h.2 with hn | ⟨g, cap, rfl, h1, h2, h3, h4, h5⟩
  · exact .inl hn
  · have e := hb g rfl
    have hlt : ∃ o : Obj, w'.heap[g]? = some o ∧ o.isCells = true := by
      obtain ⟨o, ho, hc⟩ := h3
      exact ⟨o, e.trans ho, hc⟩
    exact .inr ⟨g, cap, rfl, h1, h2, hlt, fun j hj => (World.cell?_of_block (a := ⟨g, j, none⟩) e).trans (h4 j hj), fun j hj => by
      rw [World.cell?_of_block (a := ⟨g, j, none⟩) e, World.frozen?_of_block (a := ⟨g, j, none⟩) e]; exact h5 j hj⟩
theorem Row.keep {X : Nat → Prop} (h : Row w size v n xs) (hf : Frm X w w') (hn : ∀ g, v.ownBlock = some g → ¬ X g) : Row w' size v n xs :=
  h.keepB fun g hg => hf.block g (h.blk g hg) (hn g hg)
theorem Row.alloc (h : Row w size v n xs) (o : Obj) : Row (w.alloc o) size v n xs := h.keepB fun g hg => Below.heap_alloc _ _ _ (h.blk g hg)
theorem Row.drew (h : Row w size v n xs) : Row w.drew size v n xs := h
theorem Row.setOther (h : Row w size v n xs) {p : Addr} (hn : v.ownBlock ≠ some p.block) (u : Value) : Row (w.setCell p u) size v n xs :=
  h.keepB fun g hg => Below.heap_setCell _ _ _ _ fun e => hn (by rw [hg, e])
theorem Row.slice (h : Row w size v n xs) : ∃ a cap, v = .slice a n cap ∧ n ≤ cap ∧ cap ≤ maxLen := by
  rcases h.2 with ⟨rfl, rfl⟩ | ⟨g, cap, rfl, h1, h2, _⟩
  · exact ⟨_, _, rfl, Nat.le_refl _, by decide⟩
  · exact ⟨_, _, rfl, h1, h2⟩
theorem Row.isC (h : Row w size v n xs) : ∀ g, v.ownBlock = some g → ∃ o : Obj, w.heap[g]? = some o ∧ o.isCells = true := by
  intro g hg
  rcases h.2 with ⟨rfl, _⟩ | ⟨g', cap, rfl, _, _, hc, _⟩
  · cases hg
  · cases hg; exact hc
theorem Row.turned {row : Option Nat} (h : Row w size v n xs) (hg : w.grownBy w' row) (hr : ∀ r, row = some r → ∃ o : Obj, w.heap[r]? = some o ∧ o.isCells = false) : Row w' size v n xs :=
  h.keepB fun g hv => hg.block g (h.blk g hv) fun e => by
    obtain ⟨o, ho, hc⟩ := hr g e.symm
    obtain ⟨o', ho', hc'⟩ := h.isC g hv
    rw [ho] at ho'
    cases ho'
    rw [hc] at hc'
    cases hc'
/-- A new row. -/
theorem Row.made (w : World) (e : TypeId) (size n cap : Nat) (xs : List Value) (cur : Array Value) (hl : xs.length = n * size) (hn : n ≤ cap) (hm : cap ≤ maxLen) (hs : cur.size = cap * size) (ht : cur.toList.take (n * size) = xs) :
    Row (w.alloc (.cells cur e)) size (.slice (some ⟨w.heap.size, 0, none⟩) n cap) n xs := by
  have hb := Blk.alloc w e cur
  refine ⟨hl, .inr ⟨_, cap, rfl, hn, hm, ⟨_, hb, rfl⟩, fun j hj => ?_, fun j hj => ⟨?_, hb.free j⟩⟩⟩
  · have hj' : j < cur.size := by rw [hs]; exact Nat.lt_of_lt_of_le hj (Nat.mul_le_mul_right _ hn)
    rw [hb.cell j (v := cur[j]) (by simp [hj']), ← ht, List.getElem?_take, if_pos hj]
    simp [hj']
  · have hj' : j < cur.size := by rw [hs]; exact hj
    rw [hb.cell j (v := cur[j]) (by simp [hj'])]; rfl
end

theorem setCells_blk (b : Nat) : ∀ (vs : List Value) (o : Nat) (w : World) (k : Nat), k ≠ b → (w.setCells b o vs).heap[k]? = w.heap[k]? := by
  intro vs
  induction vs with
  | nil => intro o w k _; rfl
  | cons v vs ih =>
    intro o w k hk
    rw [World.setCells, ih _ _ _ hk]
    exact Below.heap_setCell _ _ _ _ hk
theorem setCells_rest (b : Nat) : ∀ (vs : List Value) (o : Nat) (w : World), (w.setCells b o vs).os = w.os ∧ (w.setCells b o vs).tape = w.tape ∧ (w.setCells b o vs).output = w.output ∧ (w.setCells b o vs).heap.size = w.heap.size := by
  intro vs
  induction vs with
  | nil => intro o w; exact ⟨rfl, rfl, rfl, rfl⟩
  | cons v vs ih =>
    intro o w
    rw [World.setCells]
    obtain ⟨h1, h2, h3, h4⟩ := ih (o + 1) (w.setCell ⟨b, o, none⟩ v)
    exact ⟨h1, h2, h3, by rw [h4]; simp [World.setCell]⟩

theorem setCell_isCells {w : World} {g : Nat} (a : Addr) (u : Value) (h : ∃ o : Obj, w.heap[g]? = some o ∧ o.isCells = true) : ∃ o : Obj, (w.setCell a u).heap[g]? = some o ∧ o.isCells = true := by
  obtain ⟨o, ho, hc⟩ := h
  by_cases e : g = a.block
  · subst e
    cases o <;> first | (simp [Obj.isCells] at hc; done) | skip
    refine ⟨_, by simp only [World.setCell, Array.getElem?_modify]; simp [ho]; rfl, rfl⟩
  · exact ⟨o, (Below.heap_setCell _ _ _ _ e).trans ho, hc⟩
theorem setCells_isCells (b : Nat) : ∀ (vs : List Value) (o : Nat) (w : World) (g : Nat), (∃ o : Obj, w.heap[g]? = some o ∧ o.isCells = true) → ∃ x : Obj, (w.setCells b o vs).heap[g]? = some x ∧ x.isCells = true := by
  intro vs
  induction vs with
  | nil => intro o w g h; exact h
  | cons v vs ih =>
    intro o w g h
    rw [World.setCells]
    exact ih _ _ _ (setCell_isCells _ _ h)
/-- An append, of whatever source. -/
theorem run_append_row {P : Program} (w : World) (t tx ty e : TypeId) (i : TypeInfo) (z : Value) (size bytes : Nat) (ht : P.underlying t = some (.slice e)) (hi : P.info? e = some i) (hz : i.zero = some z)
    (hsize : i.size = size) (hby : i.bytes = bytes) (hzs : z.cells.size = size) {v : Value} {n : Nat} {xs : List Value} (hr : Row w size v n xs)
    (x : Value) (m : Nat) (news : List Value) (hs : Src P size tx x m news w) (h63 : n + m ≤ maxLen) (hbytes : (n + m) * bytes ≤ 140737488355328) :
    ∃ v' w', (Builtin.append_ #[t, tx] ty #[v, x]).run P w = .ok v' w' ∧ Row w' size v' (n + m) (xs ++ news) ∧ w.grownBy w' v.ownBlock ∧ (∀ g, v'.ownBlock = some g → v.ownBlock = some g ∨ w.heap.size ≤ g) := by
  subst hsize hby
  have hnl := hs.newsLen
  have hxl := hr.1
  have hl : (xs ++ news).length = (n + m) * i.size := by rw [List.length_append, hxl, hnl, Nat.add_mul]
  have hsmall : n + m ≤ 9223372036854775807 := by simp only [maxLen] at h63; omega
  have grown : ∀ (old : Nat), old < n + m → Row (w.drew.alloc (.cells ((xs ++ news).toArray ++ Builtin.zeroCells z.cells (grownCap w (n + m) old e - (n + m))) e)) i.size
        (.slice (some ⟨w.heap.size, 0, none⟩) (n + m) (grownCap w (n + m) old e)) (n + m) (xs ++ news) := by
    intro old _
    have hge := grownCap_ge w (n + m) old e
    refine Row.made w.drew e i.size (n + m) _ (xs ++ news) _ hl hge (grownCap_le_maxLen w (n + m) old e h63) ?_ ?_
    · simp only [Array.size_append, List.size_toArray, hl, size_zeroCells, hzs, ← Nat.add_mul]
      congr 1
      omega
    · simp only [Array.toList_append]
      rw [← hl]
      exact List.take_left
  rcases hr.2 with ⟨rfl, rfl⟩ | ⟨g, cap, rfl, h1, h2, h3, h4, h5⟩
  · have hx : xs = [] := List.eq_nil_of_length_eq_zero (by simpa using hxl)
    subst hx
    by_cases hm : m = 0
    · subst hm
      have hn : news = [] := List.eq_nil_of_length_eq_zero (by simpa using hnl)
      subst hn
      exact ⟨_, _, run_append_nothing w t tx ty e i ht hi none 0 0 (Nat.le_refl _) x hs, Row.nil_ _ _, ⟨rfl, rfl, rfl, Nat.le_refl _, fun _ _ _ => rfl⟩, fun _ h => .inl h⟩
    · exact ⟨_, _, run_append_grow_src w t tx ty e i z ht hi hz none 0 0 [] (run_firstCells_none _ _ _ _ _) x m news hs (by omega) (by omega) (growslice_fits (by omega) hbytes),
        grown 0 (by omega), ⟨rfl, rfl, rfl, by simp, fun k hk _ => Below.heap_alloc w.drew _ k hk⟩, fun g hg => .inr (by cases hg; exact Nat.le_refl _)⟩
  · by_cases hroom : n + m ≤ cap
    · have hc : ∀ j, j < news.length → (w.cell? ⟨g, 0 + n * i.size + j, none⟩).isSome = true ∧ w.frozen? ⟨g, 0 + n * i.size + j, none⟩ = false := by
        intro j hj
        have : n * i.size + j < cap * i.size := by
          have h6 := Nat.mul_le_mul_right i.size hroom
          rw [Nat.add_mul] at h6
          omega
        rw [Nat.zero_add]
        exact h5 _ this
      refine ⟨_, _, run_append_room_src w t tx ty e i ht hi g 0 n cap x m news hs hroom (fun j hj => (hc j hj).1) (fun j hj => (hc j hj).2), ?_, ?_, fun _ h => .inl h⟩
      · refine ⟨hl, .inr ⟨g, cap, rfl, hroom, h2, setCells_isCells g news _ w g h3, fun j hj => ?_, fun j hj => ?_⟩⟩
        · by_cases hj1 : j < n * i.size
          · rw [World.cell?_setCells_out g news _ w ⟨g, j, none⟩ (fun _ _ => .inl (by simpa using hj1)), h4 j hj1, List.getElem?_append_left (by omega)]
          · have hj2 : j - n * i.size < news.length := by rw [Nat.add_mul] at hj; omega
            have hin := World.cell?_setCells_in g news (0 + n * i.size) w (fun j hj => (hc j hj).1) (j - n * i.size) hj2
            rw [show 0 + n * i.size + (j - n * i.size) = j from by omega] at hin
            rw [hin, List.getElem?_append_right (by omega), hxl, List.getElem?_eq_getElem hj2]
        · rw [World.frozen?_setCells]
          refine ⟨?_, (h5 j hj).2⟩
          by_cases hj1 : j < n * i.size ∨ n * i.size + news.length ≤ j
          · rw [World.cell?_setCells_out g news _ w ⟨g, j, none⟩ (fun _ _ => by simpa using hj1)]; exact (h5 j hj).1
          · have hin := World.cell?_setCells_in g news (0 + n * i.size) w (fun j hj => (hc j hj).1) (j - n * i.size) (by omega)
            rw [show 0 + n * i.size + (j - n * i.size) = j from by omega] at hin
            rw [hin]; rfl
      · obtain ⟨e1, e2, e3, e4⟩ := setCells_rest g news (0 + n * i.size) w
        exact ⟨e1, e2, e3, by rw [e4]; exact Nat.le_refl _, fun k _ hk => setCells_blk g news _ w k (fun e => hk (by rw [e]; rfl))⟩
    · have hold : (Builtin.firstCells i.size n (.slice (some ⟨g, 0, none⟩) n cap)).run P w.drew = .ok xs.toArray w.drew := by
        refine run_firstCells_some w.drew i.size n ⟨g, 0, none⟩ n cap xs hxl fun j u hu => ?_
        have hj : j < xs.length := by
          rcases Nat.lt_or_ge j xs.length with h | h
          · exact h
          · rw [List.getElem?_eq_none h] at hu; cases hu
        have hadd : (⟨g, 0, none⟩ : Addr).add j = ⟨g, j, none⟩ := by unfold Addr.add; split <;> simp_all
        rw [hadd]
        show w.cell? ⟨g, j, none⟩ = some u
        rw [h4 j (by omega), hu]
      exact ⟨_, _, run_append_grow_src w t tx ty e i z ht hi hz (some ⟨g, 0, none⟩) n cap xs hold x m news hs (by omega) (by omega) (growslice_fits (by omega) hbytes),
        grown cap (by omega), ⟨rfl, rfl, rfl, by simp, fun k hk _ => Below.heap_alloc w.drew _ k hk⟩, fun g hg => .inr (by cases hg; exact Nat.le_refl _)⟩
end Go.Proofs.YtdhnidmeeocajaaGreat
end
