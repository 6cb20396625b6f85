/- What reading an item does. No condition but the reader's own. -/
import Derived.Test.YtalalekbeabhiaaItems
import Derived.Deep.RegionWith
namespace Go.Proofs.Ytalalekbeabhiaa
open Go.RowKit
/-- What reading a text does. -/
def textS (l : List UInt8) (e : Nat) : List UInt8 × List UInt8 × Nat := nextS (varS l e).1 (varS l e).2.1 (varS l e).2.2
theorem nextS_inv {n : Nat} {l : List UInt8} {e : Nat} (h : e ≠ 0 → l = []) : (nextS n l e).2.2 ≠ 0 → (nextS n l e).2.1 = [] := by
  unfold nextS
  split
  · intro he
    rw [h he, List.drop_nil]
  · split
    · intro _; rfl
    · intro he; exact h he
theorem varAt_inv (l : List UInt8) : ∀ i m, (varAt i m l).2.2 ≠ 0 → (varAt i m l).2.1 = [] := by
  induction l with
  | nil => intro i m _; rfl
  | cons c l ih =>
    intro i m
    rw [varAt]
    split
    · intro _; rfl
    split
    · intro h; exact absurd rfl h
    · exact ih _ _
theorem varS_inv {l : List UInt8} {e : Nat} (h : e ≠ 0 → l = []) : (varS l e).2.2 ≠ 0 → (varS l e).2.1 = [] := by
  unfold varS
  split
  · exact varAt_inv l 0 0
  · exact h

set_option maxHeartbeats 400000 in
theorem ru8_any (b : Nat) (l : List UInt8) (e : Nat) (w : World) (h : Rd w b l e) :
    Calls Try.prog 25 #[.pointer (some ⟨b, 0, none⟩)] w fun r w' => r = .returned (.int .u8 (numS 1 l e).1) ∧ Rd w' b (numS 1 l e).2.1 (numS 1 l e).2.2 ∧ Frm (· = b) w w' := by
  go_enter Try.func25, Try.ntmps25
  go_wp2_with (go_at_call 45; refine (take_u8 b l e _ h).mono ?_; rintro r w' ⟨rfl, h1, h2⟩)
  go_ret
  exact ⟨rfl, h1, h2⟩
set_option maxHeartbeats 400000 in
theorem ru16_any (b : Nat) (l : List UInt8) (e : Nat) (w : World) (h : Rd w b l e) :
    Calls Try.prog 37 #[.pointer (some ⟨b, 0, none⟩)] w fun r w' => r = .returned (.int .u16 (numS 2 l e).1) ∧ Rd w' b (numS 2 l e).2.1 (numS 2 l e).2.2 ∧ Frm (· = b) w w' := by
  go_enter Try.func37, Try.ntmps37
  go_wp2_with (go_at_call 50; refine (take_u16 b l e _ h).mono ?_; rintro r w' ⟨rfl, h1, h2⟩)
  go_ret
  exact ⟨rfl, h1, h2⟩
set_option maxHeartbeats 400000 in
theorem ru32_any (b : Nat) (l : List UInt8) (e : Nat) (w : World) (h : Rd w b l e) :
    Calls Try.prog 28 #[.pointer (some ⟨b, 0, none⟩)] w fun r w' => r = .returned (.int .u32 (numS 4 l e).1) ∧ Rd w' b (numS 4 l e).2.1 (numS 4 l e).2.2 ∧ Frm (· = b) w w' := by
  go_enter Try.func28, Try.ntmps28
  go_wp2_with (go_at_call 47; refine (take_u32 b l e _ h).mono ?_; rintro r w' ⟨rfl, h1, h2⟩)
  go_ret
  exact ⟨rfl, h1, h2⟩
set_option maxHeartbeats 400000 in
theorem rtext_any (b : Nat) (l : List UInt8) (e : Nat) (w : World) (h : Rd w b l e) (he : e ≠ 0 → l = []) :
    Calls Try.prog 24 #[.pointer (some ⟨b, 0, none⟩)] w fun r w' => r = .returned (.string (bs (textS l e).1)) ∧ Rd w' b (textS l e).2.1 (textS l e).2.2 ∧ Frm (· = b) w w' := by
  have hlt := varS_lt l e
  go_enter Try.func24, Try.ntmps24
  go_wp2_with fail
  refine (var_any b l e _ h he).mono ?_
  rintro r w1 ⟨rfl, h1, h2⟩
  go_wp2_with fail
  refine (next_any b _ _ (varS l e).1 _ h1 (by omega)).mono ?_
  rintro r w2 ⟨rfl, h3, h4⟩
  go_wp2_with fail
  go_ret
  exact ⟨rfl, h3, h2.trans h4⟩

/-- What reading an item does: is it read as it was written? what is left, the error. -/
def readI (x : Item) (l : List UInt8) (e : Nat) : Bool × List UInt8 × Nat :=
  if x.k % 6 = 0 then ((numS 1 l e).1 == x.n % 256, (numS 1 l e).2) else if x.k % 6 = 1 then ((numS 2 l e).1 == x.n % 65536, (numS 2 l e).2) else if x.k % 6 = 2 then ((numS 4 l e).1 == x.n, (numS 4 l e).2)
  else if x.k % 6 = 3 then ((varS l e).1 == x.n, (varS l e).2) else if x.k % 6 = 4 then ((nextS x.s.length l e).1 == x.s, (nextS x.s.length l e).2) else ((textS l e).1 == x.s, (textS l e).2)

set_option maxRecDepth 100000 in
set_option maxHeartbeats 2000000 in
theorem readI_any (b : Nat) (l : List UInt8) (e : Nat) (x : Item) (w : World) (h : Rd w b l e) (he : e ≠ 0 → l = []) (hk : x.k < 256) (hs : x.s.length ≤ 300) :
    Calls Try.prog 31 #[.pointer (some ⟨b, 0, none⟩), .agg #[.int .u8 x.k, .int .u32 x.n, .string (bs x.s)]] w fun r w' => r = .returned (.bool (readI x l e).1) ∧ Rd w' b (readI x l e).2.1 (readI x l e).2.2 ∧ Frm (· = b) w w' := by
  obtain ⟨c, hc⟩ : ∃ c, x.k % 6 = c := ⟨_, rfl⟩
  have hc6 : c < 6 := by omega
  have He := Lib.hid hc
  clear hc
  have hb0 := Blk.alloc w 32 #[.int .u8 x.k, .int .u32 x.n, .string (bs x.s)]
  have f1 := (Frm.refl (fun _ => False) w).alloc (.cells #[.int .u8 x.k, .int .u32 x.n, .string (bs x.s)] 32)
  have h1 := h.keep f1 (fun h => h)
  have hlt := h.lt
  have c0 : (w.alloc (.cells #[.int .u8 x.k, .int .u32 x.n, .string (bs x.s)] 32)).cell? ⟨w.heap.size, 0, none⟩ = some (.int .u8 x.k) := hb0.cell 0 rfl
  have c1 : (w.alloc (.cells #[.int .u8 x.k, .int .u32 x.n, .string (bs x.s)] 32)).cell? ⟨w.heap.size, 1, none⟩ = some (.int .u32 x.n) := hb0.cell 1 rfl
  have c2 : (w.alloc (.cells #[.int .u8 x.k, .int .u32 x.n, .string (bs x.s)] 32)).cell? ⟨w.heap.size, 2, none⟩ = some (.string (bs x.s)) := hb0.cell 2 rfl
  have h1d : Rd (w.alloc (.cells #[.int .u8 x.k, .int .u32 x.n, .string (bs x.s)] 32)).drew b l e := ⟨h1.blk.drew, h1.len, h1.err⟩
  have hb0d := hb0.drew
  have f1d := f1.drew
  have fin : ∀ W1, Frm (· = b) (w.alloc (.cells #[.int .u8 x.k, .int .u32 x.n, .string (bs x.s)] 32)).drew W1 → Frm (· = b) w W1 := fun W1 hf => (f1d.mono (fun _ _ h => h.elim)).next hf (fun _ _ h => h)
  have hbx : ∀ W1, Frm (· = b) (w.alloc (.cells #[.int .u8 x.k, .int .u32 x.n, .string (bs x.s)] 32)).drew W1 → Blk W1 w.heap.size 32 #[.int .u8 x.k, .int .u32 x.n, .string (bs x.s)] := fun W1 hf => hb0d.keep hf (by omega)
  have Fin := Lib.hid fin
  have Hbx := Lib.hid hbx
  have hsz : (bs x.s).size = x.s.length := rfl
  have hsz2 : (bs x.s).size ≤ 300 := hs
  have Hsz := Lib.hid hsz
  clear fin hbx hsz hb0 h1 f1 hb0d f1d
  go_enter Try.func31, Try.ntmps31
  rcases (show c = 0 ∨ c = 1 ∨ c = 2 ∨ c = 3 ∨ c = 4 ∨ c = 5 by omega) with rfl | rfl | rfl | rfl | rfl | rfl
  · have hE : readI x l e = ((numS 1 l e).1 == x.n % 256, (numS 1 l e).2) := by unfold readI; rw [if_pos He.out]
    rw [hE]
    clear hE
    have t0 : ((x.k : Int) % 6 == 0) = true := by rw [beq_iff_eq]; have := He.out; omega
    go_wp2_with fail
    go_region_with ((go_at_call 25; refine (ru8_any b l e _ h1d).mono ?_; rintro r w1 ⟨rfl, h3, h4⟩; have hb1 := Hbx.out w1 h4; have d1 : w1.cell? ⟨w.heap.size, 1, none⟩ = some (.int .u32 x.n) := hb1.cell 1 rfl; have d2 : w1.cell? ⟨w.heap.size, 2, none⟩ = some (.string (bs x.s)) := hb1.cell 2 rfl))
    all_goals go_wp2
    all_goals go_ret
    all_goals exact ⟨ret_bool (by rw [mod8, Bool.eq_iff_iff, beq_iff_eq, beq_iff_eq]; omega), h3, Fin.out _ h4⟩
  · have hE : readI x l e = ((numS 2 l e).1 == x.n % 65536, (numS 2 l e).2) := by unfold readI; rw [if_neg (by rw [He.out]; decide), if_pos He.out]
    rw [hE]
    clear hE
    have t0 : ((x.k : Int) % 6 == 0) = false := by rw [beq_eq_false_iff_ne]; have := He.out; omega
    have t1 : ((x.k : Int) % 6 == 1) = true := by rw [beq_iff_eq]; have := He.out; omega
    go_wp2_with fail
    go_region_with ((go_at_call 37; refine (ru16_any b l e _ h1d).mono ?_; rintro r w1 ⟨rfl, h3, h4⟩; have hb1 := Hbx.out w1 h4; have d1 : w1.cell? ⟨w.heap.size, 1, none⟩ = some (.int .u32 x.n) := hb1.cell 1 rfl; have d2 : w1.cell? ⟨w.heap.size, 2, none⟩ = some (.string (bs x.s)) := hb1.cell 2 rfl))
    all_goals go_wp2
    all_goals go_ret
    all_goals exact ⟨ret_bool (by rw [mod16, Bool.eq_iff_iff, beq_iff_eq, beq_iff_eq]; omega), h3, Fin.out _ h4⟩
  · have hE : readI x l e = ((numS 4 l e).1 == x.n, (numS 4 l e).2) := by unfold readI; rw [if_neg (by rw [He.out]; decide), if_neg (by rw [He.out]; decide), if_pos He.out]
    rw [hE]
    clear hE
    have t0 : ((x.k : Int) % 6 == 0) = false := by rw [beq_eq_false_iff_ne]; have := He.out; omega
    have t1 : ((x.k : Int) % 6 == 1) = false := by rw [beq_eq_false_iff_ne]; have := He.out; omega
    have t2 : ((x.k : Int) % 6 == 2) = true := by rw [beq_iff_eq]; have := He.out; omega
    go_wp2_with fail
    go_region_with ((go_at_call 28; refine (ru32_any b l e _ h1d).mono ?_; rintro r w1 ⟨rfl, h3, h4⟩; have hb1 := Hbx.out w1 h4; have d1 : w1.cell? ⟨w.heap.size, 1, none⟩ = some (.int .u32 x.n) := hb1.cell 1 rfl; have d2 : w1.cell? ⟨w.heap.size, 2, none⟩ = some (.string (bs x.s)) := hb1.cell 2 rfl))
    all_goals go_wp2
    all_goals go_ret
    all_goals exact ⟨ret_bool (by rw [Bool.eq_iff_iff]; simp; try omega), h3, Fin.out _ h4⟩
  · have hE : readI x l e = ((varS l e).1 == x.n, (varS l e).2) := by unfold readI; rw [if_neg (by rw [He.out]; decide), if_neg (by rw [He.out]; decide), if_neg (by rw [He.out]; decide), if_pos He.out]
    rw [hE]
    clear hE
    have t0 : ((x.k : Int) % 6 == 0) = false := by rw [beq_eq_false_iff_ne]; have := He.out; omega
    have t1 : ((x.k : Int) % 6 == 1) = false := by rw [beq_eq_false_iff_ne]; have := He.out; omega
    have t2 : ((x.k : Int) % 6 == 2) = false := by rw [beq_eq_false_iff_ne]; have := He.out; omega
    have t3 : ((x.k : Int) % 6 == 3) = true := by rw [beq_iff_eq]; have := He.out; omega
    go_wp2_with fail
    go_region_with ((go_at_call 29; refine (var_any b l e _ h1d he).mono ?_; rintro r w1 ⟨rfl, h3, h4⟩; have hb1 := Hbx.out w1 h4; have d1 : w1.cell? ⟨w.heap.size, 1, none⟩ = some (.int .u32 x.n) := hb1.cell 1 rfl; have d2 : w1.cell? ⟨w.heap.size, 2, none⟩ = some (.string (bs x.s)) := hb1.cell 2 rfl))
    all_goals go_wp2
    all_goals go_ret
    all_goals exact ⟨ret_bool (by rw [Bool.eq_iff_iff]; simp; try omega), h3, Fin.out _ h4⟩
  · have hE : readI x l e = ((nextS x.s.length l e).1 == x.s, (nextS x.s.length l e).2) := by unfold readI; rw [if_neg (by rw [He.out]; decide), if_neg (by rw [He.out]; decide), if_neg (by rw [He.out]; decide), if_neg (by rw [He.out]; decide), if_pos He.out]
    rw [hE]
    clear hE
    have t0 : ((x.k : Int) % 6 == 0) = false := by rw [beq_eq_false_iff_ne]; have := He.out; omega
    have t1 : ((x.k : Int) % 6 == 1) = false := by rw [beq_eq_false_iff_ne]; have := He.out; omega
    have t2 : ((x.k : Int) % 6 == 2) = false := by rw [beq_eq_false_iff_ne]; have := He.out; omega
    have t3 : ((x.k : Int) % 6 == 3) = false := by rw [beq_eq_false_iff_ne]; have := He.out; omega
    have t4 : ((x.k : Int) % 6 == 4) = true := by rw [beq_iff_eq]; have := He.out; omega
    go_wp2_with fail
    go_region_with ((go_at_call 26; refine (fixed_pos b l e (bs x.s).size _ h1d (by omega)).mono ?_; rintro r w1 ⟨rfl, h3, h4⟩; have hb1 := Hbx.out w1 h4; have d1 : w1.cell? ⟨w.heap.size, 1, none⟩ = some (.int .u32 x.n) := hb1.cell 1 rfl; have d2 : w1.cell? ⟨w.heap.size, 2, none⟩ = some (.string (bs x.s)) := hb1.cell 2 rfl))
    all_goals go_wp2
    all_goals go_ret
    all_goals exact ⟨ret_bool (by show ((bs _).toList == (bs _).toList) = _; rw [bs_toList, bs_toList]; exact rfl), h3, Fin.out _ h4⟩
  · have hE : readI x l e = ((textS l e).1 == x.s, (textS l e).2) := by unfold readI; rw [if_neg (by rw [He.out]; decide), if_neg (by rw [He.out]; decide), if_neg (by rw [He.out]; decide), if_neg (by rw [He.out]; decide), if_neg (by rw [He.out]; decide)]
    rw [hE]
    clear hE
    have t0 : ((x.k : Int) % 6 == 0) = false := by rw [beq_eq_false_iff_ne]; have := He.out; omega
    have t1 : ((x.k : Int) % 6 == 1) = false := by rw [beq_eq_false_iff_ne]; have := He.out; omega
    have t2 : ((x.k : Int) % 6 == 2) = false := by rw [beq_eq_false_iff_ne]; have := He.out; omega
    have t3 : ((x.k : Int) % 6 == 3) = false := by rw [beq_eq_false_iff_ne]; have := He.out; omega
    have t4 : ((x.k : Int) % 6 == 4) = false := by rw [beq_eq_false_iff_ne]; have := He.out; omega
    go_wp2_with fail
    go_region_with ((go_at_call 24; refine (rtext_any b l e _ h1d he).mono ?_; rintro r w1 ⟨rfl, h3, h4⟩; have hb1 := Hbx.out w1 h4; have d1 : w1.cell? ⟨w.heap.size, 1, none⟩ = some (.int .u32 x.n) := hb1.cell 1 rfl; have d2 : w1.cell? ⟨w.heap.size, 2, none⟩ = some (.string (bs x.s)) := hb1.cell 2 rfl))
    all_goals go_wp2
    all_goals go_ret
    all_goals exact ⟨ret_bool (by show ((bs _).toList == (bs _).toList) = _; rw [bs_toList, bs_toList]), h3, Fin.out _ h4⟩
end Go.Proofs.Ytalalekbeabhiaa
