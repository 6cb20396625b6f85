/- The law's items, as they lie in the argument's memory. No condition. -/
import Derived.Test.YtalalekbeabhiaaLawA
import Derived.Test.YtalalekbeabhiaaCodecM
namespace Go.Proofs.Ytalalekbeabhiaa
open Go.RowKit
/-- Something that is written, or read. -/
structure Item where
  k : Nat
  n : Nat
  s : List UInt8
/-- The slice value v reads as these items. -/
def It (w : World) (v : Value) (L : List Item) : Prop :=
  ∃ a cap, v = .slice a L.length cap ∧ L.length ≤ cap ∧ cap ≤ maxLen ∧ ∀ i (h : i < L.length), ∃ b off, a = some ⟨b, off, none⟩ ∧ b < w.heap.size ∧
    w.cell? ⟨b, off + i * 3, none⟩ = some (.int .u8 L[i].k) ∧ w.cell? ⟨b, off + i * 3 + 1, none⟩ = some (.int .u32 L[i].n) ∧ w.cell? ⟨b, off + i * 3 + 2, none⟩ = some (.string (bs L[i].s)) ∧
    L[i].k < 256 ∧ L[i].n < 4294967296 ∧ L[i].s.length ≤ 9223372036854775807
theorem It.keep {X : Nat → Prop} {w w' : World} {v : Value} {L : List Item} (h : It w v L) (hf : Frm X w w') (hn : ∀ k, k < w.heap.size → ¬ X k) : It w' v L := by
  obtain ⟨a, cap, hv, h1, h2, h3⟩ := h
  refine ⟨a, cap, hv, h1, h2, fun i hi => ?_⟩
  obtain ⟨b, off, ha, hb, c0, c1, c2, r⟩ := h3 i hi
  have e := hf.block b hb (hn b hb)
  have ec : ∀ j, w'.cell? ⟨b, j, none⟩ = w.cell? ⟨b, j, none⟩ := fun j => World.cell?_of_block (a := ⟨b, j, none⟩) e
  exact ⟨b, off, ha, Nat.lt_of_lt_of_le hb hf.size, by rw [ec]; exact c0, by rw [ec]; exact c1, by rw [ec]; exact c2, r⟩

theorem ret_bool {a b : Bool} (h : a = b) : Ending.returned (.bool a) = .returned (.bool b) := by rw [h]
theorem mod8 (n : Nat) : IntKind.u8.wrap (n : Int) = ((n % 256 : Nat) : Int) := by rw [IntKind.wrap_u8]; omega
theorem mod8a (n : Nat) : (n : Int) % 256 = ((n % 256 : Nat) : Int) := by omega
theorem mod16 (n : Nat) : IntKind.u16.wrap (n : Int) = ((n % 65536 : Nat) : Int) := by rw [IntKind.wrap_u16]; omega
theorem mod16a (n : Nat) : (n : Int) % 65536 = ((n % 65536 : Nat) : Int) := by omega
/-- May these items be gone through? -/
def fewP (L : List Item) : Prop := L.length ≤ 60 ∧ ∀ i (h : i < L.length), L[i].s.length ≤ 300

set_option maxRecDepth 100000 in
set_option maxHeartbeats 1000000 in
theorem few_yes (v : Value) (L : List Item) (w : World) (h : It w v L) (hfew : fewP L) :
    Calls Try.prog 8 #[v] w fun e w' => e = .returned (.bool true) ∧ w = w' := by
  obtain ⟨a, cap, rfl, h1, h2, h3⟩ := h
  obtain ⟨f1, f2⟩ := hfew
  have H3 := Lib.hid h3
  have F2 := Lib.hid f2
  clear h3 f2
  unfold maxLen at h2
  go_enter Try.func8, Try.ntmps8
  go_wp2
  go_loop [3] (fun i => ∃ k : Nat, k ≤ L.length ∧ i = .int .i64 k) (fun i => L.length - (intOf i).toNat)
  case atStart => exact ⟨0, Nat.zero_le _, rfl⟩
  case round =>
    obtain ⟨k, hk, rfl⟩ := hrel
    by_cases hlt : k < L.length
    · obtain ⟨b, off, rfl, hb, c0, c1, c2, q1, q2, q3⟩ := H3.out k hlt
      have hs := F2.out k hlt
      have hsz : ((bs L[k].s).size : Int) ≤ 300 := by rw [bs_size]; omega
      have h70 : (k : Int) < 70 := by omega
      go_wp2
      go_round
      case rel => exact ⟨k + 1, by omega, by go_num⟩
      case measure => simp [intOf]; omega
    · obtain rfl : k = L.length := by omega
      go_wp2
      go_ret
      exact ⟨ret_bool (by simp; omega), rfl⟩

set_option maxRecDepth 100000 in
set_option maxHeartbeats 1000000 in
theorem few_no (v : Value) (L : List Item) (w : World) (h : It w v L) (hfew : ¬ fewP L) :
    Calls Try.prog 8 #[v] w fun e w' => e = .returned (.bool false) ∧ w = w' := by
  obtain ⟨a, cap, rfl, h1, h2, h3⟩ := h
  have H3 := Lib.hid h3
  have HF := Lib.hid hfew
  clear h3 hfew
  unfold maxLen at h2
  go_enter Try.func8, Try.ntmps8
  go_wp2
  go_loop [3] (fun i => ∃ k : Nat, k ≤ L.length ∧ k ≤ 70 ∧ i = .int .i64 k ∧ ∀ j (h : j < L.length), j < k → L[j].s.length ≤ 300) (fun i => L.length - (intOf i).toNat)
  case atStart => exact ⟨0, Nat.zero_le _, by omega, rfl, fun j _ h => absurd h (by omega)⟩
  case round =>
    obtain ⟨k, hk, hk70, rfl, hall⟩ := hrel
    have Hall := Lib.hid hall
    clear hall
    by_cases hlt : k < L.length
    · obtain ⟨b, off, rfl, hb, c0, c1, c2, q1, q2, q3⟩ := H3.out k hlt
      by_cases h70 : k < 70
      · have h70i : (k : Int) < 70 := by omega
        by_cases hs : L[k].s.length ≤ 300
        · have hsz : ((bs L[k].s).size : Int) ≤ 300 := by rw [bs_size]; omega
          go_wp2
          go_round
          case rel =>
            refine ⟨k + 1, by omega, by omega, by go_num, fun j hj hjk => ?_⟩
            by_cases e : j = k
            · subst e; exact hs
            · exact Hall.out j hj (by omega)
          case measure => simp [intOf]; omega
        · have hsz : (300 : Int) < ((bs L[k].s).size : Int) := by rw [bs_size]; omega
          go_wp2
          go_ret
          exact ⟨rfl, rfl⟩
      · have h70i : (70 : Int) ≤ (k : Int) := by omega
        have h60 : (60 : Int) < (L.length : Int) := by omega
        go_wp2
        go_ret
        exact ⟨ret_bool (by simp; omega), rfl⟩
    · obtain rfl : k = L.length := by omega
      have h60 : (60 : Int) < (L.length : Int) := by
        rcases Nat.lt_or_ge 60 L.length with h | h
        · omega
        · exact absurd ⟨h, fun i hi => Hall.out i hi hi⟩ HF.out
      go_wp2
      go_ret
      exact ⟨ret_bool (by simp; omega), rfl⟩

/-- What an item is written as. -/
def encI (x : Item) : List UInt8 :=
  if x.k % 6 = 0 then beB 1 (x.n % 256) else if x.k % 6 = 1 then beB 2 (x.n % 65536) else if x.k % 6 = 2 then beB 4 x.n else if x.k % 6 = 3 then varB x.n else if x.k % 6 = 4 then x.s else textB x.s
theorem encI_len (x : Item) (hs : x.s.length ≤ 300) : (encI x).length ≤ 400 := by
  unfold encI textB
  have := varB_len x.n
  have := varB_len x.s.length
  split
  · rw [beB_len]; omega
  split
  · rw [beB_len]; omega
  split
  · rw [beB_len]; omega
  split
  · omega
  split
  · omega
  · rw [List.length_append]; omega
set_option maxRecDepth 100000 in
set_option maxHeartbeats 1000000 in
theorem write_any (b : Nat) (s : List UInt8) (fp : List Nat) (x : Item) (w : World) (h : Wr w b s fp) (hk : x.k < 256) (hn : x.n < 4294967296) (hs : x.s.length ≤ 300) (hl : s.length ≤ 70368744000000) :
    Calls Try.prog 30 #[.pointer (some ⟨b, 0, none⟩), .agg #[.int .u8 x.k, .int .u32 x.n, .string (bs x.s)]] w (WrTo b (s ++ encI x) fp w) := by
  obtain ⟨c, hc⟩ : ∃ c, x.k % 6 = c := ⟨_, rfl⟩
  have hc6 : c < 6 := by omega
  have He := Lib.hid hc
  clear hc
  have h1 := h.keep ((Frm.refl (fun _ => False) w).alloc (.cells #[.int .u8 x.k, .int .u32 x.n, .string (bs x.s)] 32)) (fun _ _ h => h)
  have f1 := (Frm.refl (fun _ => False) w).alloc (.cells #[.int .u8 x.k, .int .u32 x.n, .string (bs x.s)] 32)
  go_enter Try.func30, Try.ntmps30
  have hx : ∀ t W e, WrTo b (s ++ t) fp (w.alloc (.cells #[.int .u8 x.k, .int .u32 x.n, .string (bs x.s)] 32)) e W → e = .returned (.tuple #[]) ∧ WrTo b (s ++ t) fp w (.returned (.tuple #[])) W := by
    rintro t W e ⟨rfl, fp', a1, a2, a3⟩
    exact ⟨rfl, rfl, fp', a1, (f1.mono (fun _ _ h => h.elim)).next a2 (fun _ _ h => h), fun k hk => (a3 k hk).imp id fun e => Nat.le_trans f1.size e⟩
  rcases (show c = 0 ∨ c = 1 ∨ c = 2 ∨ c = 3 ∨ c = 4 ∨ c = 5 by omega) with rfl | rfl | rfl | rfl | rfl | rfl
  · have hE : encI x = beB 1 (x.n % 256) := by unfold encI; rw [if_pos He.out]
    rw [hE]
    clear hE
    have t0 : ((x.k : Int) % 6 == 0) = true := by rw [beq_iff_eq]; have := He.out; omega
    go_wp2_with fail
    first | rw [mod8] | rw [mod8a]
    refine (wu8_any b s fp (x.n % 256) (by omega) _ h1 (by omega)).mono ?_
    intro e W1 r
    obtain ⟨rfl, r2⟩ := hx _ _ _ r
    clear r
    go_wp2
    go_end0
    exact r2
  · have hE : encI x = beB 2 (x.n % 65536) := by unfold encI; rw [if_neg (by rw [He.out]; decide), if_pos He.out]
    rw [hE]
    clear hE
    have t0 : ((x.k : Int) % 6 == 0) = false := by rw [beq_eq_false_iff_ne]; have := He.out; omega
    have t1 : ((x.k : Int) % 6 == 1) = true := by rw [beq_iff_eq]; have := He.out; omega
    go_wp2_with fail
    first | rw [mod16] | rw [mod16a]
    refine (wu16_any b s fp (x.n % 65536) (by omega) _ h1 (by omega)).mono ?_
    intro e W1 r
    obtain ⟨rfl, r2⟩ := hx _ _ _ r
    clear r
    go_wp2
    go_end0
    exact r2
  · have hE : encI x = beB 4 x.n := by unfold encI; rw [if_neg (by rw [He.out]; decide), if_neg (by rw [He.out]; decide), if_pos He.out]
    rw [hE]
    clear hE
    have t0 : ((x.k : Int) % 6 == 0) = false := by rw [beq_eq_false_iff_ne]; have := He.out; omega
    have t1 : ((x.k : Int) % 6 == 1) = false := by rw [beq_eq_false_iff_ne]; have := He.out; omega
    have t2 : ((x.k : Int) % 6 == 2) = true := by rw [beq_iff_eq]; have := He.out; omega
    go_wp2_with fail
    refine (wu32_any b s fp x.n hn _ h1 (by omega)).mono ?_
    intro e W1 r
    obtain ⟨rfl, r2⟩ := hx _ _ _ r
    clear r
    go_wp2
    go_end0
    exact r2
  · have hE : encI x = varB x.n := by unfold encI; rw [if_neg (by rw [He.out]; decide), if_neg (by rw [He.out]; decide), if_neg (by rw [He.out]; decide), if_pos He.out]
    rw [hE]
    clear hE
    have t0 : ((x.k : Int) % 6 == 0) = false := by rw [beq_eq_false_iff_ne]; have := He.out; omega
    have t1 : ((x.k : Int) % 6 == 1) = false := by rw [beq_eq_false_iff_ne]; have := He.out; omega
    have t2 : ((x.k : Int) % 6 == 2) = false := by rw [beq_eq_false_iff_ne]; have := He.out; omega
    have t3 : ((x.k : Int) % 6 == 3) = true := by rw [beq_iff_eq]; have := He.out; omega
    go_wp2_with fail
    refine (wvar_any b s fp x.n hn _ h1 (by omega)).mono ?_
    intro e W1 r
    obtain ⟨rfl, r2⟩ := hx _ _ _ r
    clear r
    go_wp2
    go_end0
    exact r2
  · have hE : encI x = x.s := by unfold encI; rw [if_neg (by rw [He.out]; decide), if_neg (by rw [He.out]; decide), if_neg (by rw [He.out]; decide), if_neg (by rw [He.out]; decide), if_pos He.out]
    rw [hE]
    clear hE
    have t0 : ((x.k : Int) % 6 == 0) = false := by rw [beq_eq_false_iff_ne]; have := He.out; omega
    have t1 : ((x.k : Int) % 6 == 1) = false := by rw [beq_eq_false_iff_ne]; have := He.out; omega
    have t2 : ((x.k : Int) % 6 == 2) = false := by rw [beq_eq_false_iff_ne]; have := He.out; omega
    have t3 : ((x.k : Int) % 6 == 3) = false := by rw [beq_eq_false_iff_ne]; have := He.out; omega
    have t4 : ((x.k : Int) % 6 == 4) = true := by rw [beq_iff_eq]; have := He.out; omega
    go_wp2_with fail
    refine (raw_any b s x.s fp _ h1 (by omega)).mono ?_
    intro e W1 r
    obtain ⟨rfl, r2⟩ := hx _ _ _ r
    clear r
    go_wp2
    go_end0
    exact r2
  · have hE : encI x = textB x.s := by unfold encI; rw [if_neg (by rw [He.out]; decide), if_neg (by rw [He.out]; decide), if_neg (by rw [He.out]; decide), if_neg (by rw [He.out]; decide), if_neg (by rw [He.out]; decide)]
    rw [hE]
    clear hE
    have t0 : ((x.k : Int) % 6 == 0) = false := by rw [beq_eq_false_iff_ne]; have := He.out; omega
    have t1 : ((x.k : Int) % 6 == 1) = false := by rw [beq_eq_false_iff_ne]; have := He.out; omega
    have t2 : ((x.k : Int) % 6 == 2) = false := by rw [beq_eq_false_iff_ne]; have := He.out; omega
    have t3 : ((x.k : Int) % 6 == 3) = false := by rw [beq_eq_false_iff_ne]; have := He.out; omega
    have t4 : ((x.k : Int) % 6 == 4) = false := by rw [beq_eq_false_iff_ne]; have := He.out; omega
    go_wp2_with fail
    refine (wtext_any b s x.s fp _ h1 (by omega) (by omega)).mono ?_
    intro e W1 r
    obtain ⟨rfl, r2⟩ := hx _ _ _ r
    clear r
    go_wp2
    go_end0
    exact r2
end Go.Proofs.Ytalalekbeabhiaa
