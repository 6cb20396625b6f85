/- What made, check, Free, Use, Give answer of a space, and of none. No condition. -/
import Derived.Test.YtdhnidmeeocajaaSpA
namespace Go.Proofs.Ytdhnidmeeocajaa
open Go.RowKit

theorem sp_same (w : World) (a : Addr) : (binOp .eql 26 (.pointer (some a)) (.pointer (some a))).run Try.prog w = .ok (.bool true) w := by
  obtain ⟨j, hj⟩ := Option.isSome_iff_exists.1 (show (Try.prog.info? 55).isSome = true by kernel_rfl)
  exact run_eql_ptr_same w a Try.underlying26 hj
theorem sp_nil (w : World) (a : Addr) : (binOp .eql 26 (.pointer none) (.pointer (some a))).run Try.prog w = .ok (.bool false) w := by
  have h : ∀ d : Nat, (Op.equalIn (d + 1) 26 (.pointer none) (.pointer (some a))).run Try.prog w = .ok false w := fun d => by
    simp [Op.equalIn, run_underlying Try.underlying26]
  simp only [binOp]
  simp [Op.equal, Op.maxDepth, h 9999]
/-- There is no space: nil, or one that no function returned. -/
def NoSp (p : Value) (w : World) : Prop := p = .pointer none ∨ ∃ b, p = .pointer (some ⟨b, 0, none⟩) ∧ w.cell? ⟨b, 0, none⟩ = some (.pointer none)

set_option maxHeartbeats 400000 in
theorem spmade_any (s g : Nat) (S : SpV) (w : World) (h : SpM w s g S) :
    Calls Try.prog 26 #[.pointer (some ⟨s, 0, none⟩)] w fun e w' => e = .returned (.bool true) ∧ w = w' := by
  obtain ⟨_, _, _, hb⟩ := h.blk
  have c0 := hb.cell 0 rfl
  have hq := sp_same
  clear h hb
  go_enter Try.func26, Try.ntmps26
  go_wp2
  go_ret
  exact ⟨rfl, rfl⟩
set_option maxHeartbeats 400000 in
theorem spmade_no (p : Value) (w : World) (h : NoSp p w) :
    Calls Try.prog 26 #[p] w fun e w' => e = .returned (.bool false) ∧ w = w' := by
  rcases h with rfl | ⟨b, rfl, c0⟩
  · go_enter Try.func26, Try.ntmps26
    go_wp2
    go_ret
    exact ⟨rfl, rfl⟩
  · have hq := sp_nil
    go_enter Try.func26, Try.ntmps26
    go_wp2
    go_ret
    exact ⟨rfl, rfl⟩
theorem spcheck_no (p : Value) (z : Int) (w : World) (h : NoSp p w) :
    Calls Try.prog 30 #[p, .int .i64 z] w fun e w' => e = .returned (.int .i64 1) ∧ w = w' := by
  have HM := Lib.hid (spmade_no p w h)
  clear h
  go_enter Try.func30, Try.ntmps30
  go_wp2_with fail
  refine HM.out.mono ?_
  rintro e w1 ⟨rfl, rfl⟩
  go_wp2_with fail
  go_ret
  exact ⟨rfl, rfl⟩
set_option maxRecDepth 100000 in
set_option maxHeartbeats 1000000 in
theorem spcheck_any (s g : Nat) (S : SpV) (z : Int) (w : World) (h : SpM w s g S) :
    Calls Try.prog 30 #[.pointer (some ⟨s, 0, none⟩), .int .i64 z] w fun e w' => e = .returned (.int .i64 (S.chk z : Nat)) ∧ w = w' := by
  obtain ⟨_, _, _, hb⟩ := h.blk
  have e1 := hb.cell 1 rfl
  have e2 := hb.cell 2 rfl
  have HM := Lib.hid (spmade_any s g S w h)
  unfold SpV.chk SpV.inn
  clear h hb
  by_cases h1 : z < (S.a : Int)
  · rw [decide_eq_false (by omega : ¬ (S.a : Int) ≤ z), Bool.false_and, if_neg (by decide)]
    go_enter Try.func30, Try.ntmps30
    go_wp2_with fail
    refine HM.out.mono ?_
    rintro e w1 ⟨rfl, rfl⟩
    go_wp2_with fail
    go_ret
    exact ⟨rfl, rfl⟩
  · by_cases h2 : z < (S.n : Int)
    · rw [decide_eq_true (by omega : (S.a : Int) ≤ z), decide_eq_true h2, Bool.true_and, if_pos rfl]
      have h3 : ¬ (S.n : Int) ≤ z := by omega
      go_enter Try.func30, Try.ntmps30
      go_wp2_with fail
      refine HM.out.mono ?_
      rintro e w1 ⟨rfl, rfl⟩
      go_wp2_with fail
      go_ret
      exact ⟨rfl, rfl⟩
    · rw [decide_eq_true (by omega : (S.a : Int) ≤ z), decide_eq_false h2, Bool.true_and, if_neg (by decide)]
      have h3 : (S.n : Int) ≤ z := by omega
      go_enter Try.func30, Try.ntmps30
      go_wp2_with fail
      refine HM.out.mono ?_
      rintro e w1 ⟨rfl, rfl⟩
      go_wp2_with fail
      go_ret
      exact ⟨rfl, rfl⟩
set_option maxRecDepth 100000 in
set_option maxHeartbeats 1000000 in
theorem spfree_no (p : Value) (z : Int) (w : World) (h : NoSp p w) :
    Calls Try.prog 15 #[p, .int .i64 z] w fun e w' => e = .returned (.bool false) ∧ w = w' := by
  have HC := Lib.hid (spcheck_no p z w h)
  clear h
  go_enter Try.func15, Try.ntmps15
  go_wp2_with fail
  refine HC.out.mono ?_
  rintro e w1 ⟨rfl, rfl⟩
  go_wp2_with fail
  go_ret
  exact ⟨rfl, rfl⟩
set_option maxRecDepth 100000 in
set_option maxHeartbeats 1000000 in
theorem spfree_any (s g : Nat) (S : SpV) (z : Int) (w : World) (h : SpM w s g S) :
    Calls Try.prog 15 #[.pointer (some ⟨s, 0, none⟩), .int .i64 z] w fun e w' => e = .returned (.bool (S.isF z)) ∧ w = w' := by
  have hc := spcheck_any s g S z w h
  unfold SpV.isF
  unfold SpV.chk at hc
  cases hi : S.inn z with
  | false =>
    rw [hi, if_neg (by decide)] at hc
    have HC := Lib.hid hc
    clear hc hi h
    go_enter Try.func15, Try.ntmps15
    go_wp2_with fail
    refine HC.out.mono ?_
    rintro e w1 ⟨rfl, rfl⟩
    go_wp2_with fail
    go_ret
    exact ⟨rfl, rfl⟩
  | true =>
    rw [hi, if_pos rfl] at hc
    have HC := Lib.hid hc
    obtain ⟨k, rfl, h1, h2⟩ := SpV.inn_nat hi
    rw [Int.toNat_natCast, Bool.true_and]
    have HH := Lib.hid (shas_any s g k S w h h1 h2)
    clear hc hi h h1 h2
    go_enter Try.func15, Try.ntmps15
    go_wp2_with fail
    refine HC.out.mono ?_
    rintro e w1 ⟨rfl, rfl⟩
    go_wp2_with fail
    refine HH.out.mono ?_
    rintro e w1 ⟨rfl, rfl⟩
    go_wp2_with fail
    go_ret
    exact ⟨rfl, rfl⟩
/-- What is left of a space. -/
def SpTo (s g : Nat) (r : SpV × Nat) (w : World) (e : Ending) (w' : World) : Prop := e = .returned (.int .i64 (r.2 : Nat)) ∧ SpM w' s g r.1 ∧ Frm (· = g) w w'
set_option maxRecDepth 100000 in
set_option maxHeartbeats 1000000 in
theorem spuse_no (p : Value) (z : Int) (w : World) (h : NoSp p w) :
    Calls Try.prog 21 #[p, .int .i64 z] w fun e w' => e = .returned (.int .i64 1) ∧ w = w' := by
  have HC := Lib.hid (spcheck_no p z w h)
  clear h
  go_enter Try.func21, Try.ntmps21
  go_wp2_with fail
  refine HC.out.mono ?_
  rintro e w1 ⟨rfl, rfl⟩
  go_wp2_with fail
  go_ret
  exact ⟨rfl, rfl⟩
set_option maxRecDepth 100000 in
set_option maxHeartbeats 1000000 in
theorem spgive_no (p : Value) (z : Int) (w : World) (h : NoSp p w) :
    Calls Try.prog 22 #[p, .int .i64 z] w fun e w' => e = .returned (.int .i64 1) ∧ w = w' := by
  have HC := Lib.hid (spcheck_no p z w h)
  clear h
  go_enter Try.func22, Try.ntmps22
  go_wp2_with fail
  refine HC.out.mono ?_
  rintro e w1 ⟨rfl, rfl⟩
  go_wp2_with fail
  go_ret
  exact ⟨rfl, rfl⟩
set_option maxRecDepth 100000 in
set_option maxHeartbeats 1000000 in
theorem spuse_any (s g : Nat) (S : SpV) (z : Int) (w : World) (h : SpM w s g S) :
    Calls Try.prog 21 #[.pointer (some ⟨s, 0, none⟩), .int .i64 z] w (SpTo s g (S.use z) w) := by
  have hc := spcheck_any s g S z w h
  unfold SpTo SpV.use
  unfold SpV.chk at hc
  cases hi : S.inn z with
  | false =>
    rw [hi, if_neg (by decide)] at hc
    rw [if_neg (by decide)]
    have HC := Lib.hid hc
    have H := Lib.hid h
    clear hc hi h
    go_enter Try.func21, Try.ntmps21
    go_wp2_with fail
    refine HC.out.mono ?_
    rintro e w1 ⟨rfl, rfl⟩
    go_wp2_with fail
    go_ret
    exact ⟨rfl, H.out, Frm.refl _ _⟩
  | true =>
    rw [hi, if_pos rfl] at hc
    rw [if_pos rfl]
    have HC := Lib.hid hc
    obtain ⟨k, rfl, h1, h2⟩ := SpV.inn_nat hi
    rw [Int.toNat_natCast]
    have hh := shas_any s g k S w h h1 h2
    have HF := Lib.hid (sflip_any s g k S w h h1 h2)
    have H := Lib.hid h
    cases hf : S.F k with
    | false =>
      rw [hf] at hh
      rw [if_neg (by decide)]
      have HH := Lib.hid hh
      clear hc hi h h1 h2 hf hh
      go_enter Try.func21, Try.ntmps21
      go_wp2_with fail
      refine HC.out.mono ?_
      rintro e w1 ⟨rfl, rfl⟩
      go_wp2_with fail
      refine HH.out.mono ?_
      rintro e w1 ⟨rfl, rfl⟩
      go_wp2_with fail
      go_ret
      exact ⟨rfl, H.out, Frm.refl _ _⟩
    | true =>
      rw [hf] at hh
      rw [if_pos rfl]
      have HH := Lib.hid hh
      clear hc hi h h1 h2 hf hh
      go_enter Try.func21, Try.ntmps21
      go_wp2_with fail
      refine HC.out.mono ?_
      rintro e w1 ⟨rfl, rfl⟩
      go_wp2_with fail
      refine HH.out.mono ?_
      rintro e w1 ⟨rfl, rfl⟩
      go_wp2_with fail
      refine HF.out.mono ?_
      rintro e w1 ⟨rfl, h3, g3⟩
      go_wp2_with fail
      go_ret
      exact ⟨rfl, h3, g3⟩
set_option maxRecDepth 100000 in
set_option maxHeartbeats 1000000 in
theorem spgive_any (s g : Nat) (S : SpV) (z : Int) (w : World) (h : SpM w s g S) :
    Calls Try.prog 22 #[.pointer (some ⟨s, 0, none⟩), .int .i64 z] w (SpTo s g (S.give z) w) := by
  have hc := spcheck_any s g S z w h
  unfold SpTo SpV.give
  unfold SpV.chk at hc
  cases hi : S.inn z with
  | false =>
    rw [hi, if_neg (by decide)] at hc
    rw [if_neg (by decide)]
    have HC := Lib.hid hc
    have H := Lib.hid h
    clear hc hi h
    go_enter Try.func22, Try.ntmps22
    go_wp2_with fail
    refine HC.out.mono ?_
    rintro e w1 ⟨rfl, rfl⟩
    go_wp2_with fail
    go_ret
    exact ⟨rfl, H.out, Frm.refl _ _⟩
  | true =>
    rw [hi, if_pos rfl] at hc
    rw [if_pos rfl]
    have HC := Lib.hid hc
    obtain ⟨k, rfl, h1, h2⟩ := SpV.inn_nat hi
    rw [Int.toNat_natCast]
    have hh := shas_any s g k S w h h1 h2
    have HF := Lib.hid (sflip_any s g k S w h h1 h2)
    have H := Lib.hid h
    cases hf : S.F k with
    | true =>
      rw [hf] at hh
      rw [if_pos rfl]
      have HH := Lib.hid hh
      clear hc hi h h1 h2 hf hh
      go_enter Try.func22, Try.ntmps22
      go_wp2_with fail
      refine HC.out.mono ?_
      rintro e w1 ⟨rfl, rfl⟩
      go_wp2_with fail
      refine HH.out.mono ?_
      rintro e w1 ⟨rfl, rfl⟩
      go_wp2_with fail
      go_ret
      exact ⟨rfl, H.out, Frm.refl _ _⟩
    | false =>
      rw [hf] at hh
      rw [if_neg (by decide)]
      have HH := Lib.hid hh
      clear hc hi h h1 h2 hf hh
      go_enter Try.func22, Try.ntmps22
      go_wp2_with fail
      refine HC.out.mono ?_
      rintro e w1 ⟨rfl, rfl⟩
      go_wp2_with fail
      refine HH.out.mono ?_
      rintro e w1 ⟨rfl, rfl⟩
      go_wp2_with fail
      refine HF.out.mono ?_
      rintro e w1 ⟨rfl, h3, g3⟩
      go_wp2_with fail
      go_ret
      exact ⟨rfl, h3, g3⟩
end Go.Proofs.Ytdhnidmeeocajaa
