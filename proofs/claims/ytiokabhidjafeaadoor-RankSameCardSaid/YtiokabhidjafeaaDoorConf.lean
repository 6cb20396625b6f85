/- What path.Conflict, path.dot and path.Split answer. Conditions: the tables and errors of strconv lie as the program's text lays them (Vars). -/
import Derived.Test.YtiokabhidjafeaaDoorNames
import Derived.Deep.RegionHeld3
import Derived.Deep.QuietTactic
import Derived.BigQuiet
import Derived.IntWalk
import Derived.RegionTactic
namespace Go.Proofs.YtiokabhidjafeaaDoor
open Go.RowKit

theorem conf_bs (a : List UInt8) (r n : Nat) (hr : r ≤ 7) : bs a ++ (⟨#[126]⟩ : ByteArray) ++ bs (digs r) ++ (⟨#[46]⟩ : ByteArray) ++ bs (digs n) = bs (conf a r n) := by
  have e1 : (⟨#[126]⟩ : ByteArray) = bs [126] := rfl
  have e2 : (⟨#[46]⟩ : ByteArray) = bs [46] := rfl
  rw [e1, e2, bs_append, bs_append, bs_append, bs_append, digs_small (by omega)]
  unfold conf
  congr 1
  simp
/-- Conflict's answer. -/
def ConfTo (X : List UInt8 × Nat) (w : World) (e : Ending) (w' : World) : Prop := e = .returned (.tuple #[.string (bs X.1), .int .i64 X.2]) ∧ Fr w w'

set_option maxRecDepth 100000 in
set_option maxHeartbeats 4000000 in
theorem conflict_yes (a : List UInt8) (r n : Nat) (w : World) (hv : VarT w) (h : okd a r n) :
    Calls Tryd.prog 38 #[.string (bs a), .agg #[.int .u8 r, .int .u32 n]] w (ConfTo (conf a r n, 0) w) := by
  obtain ⟨ha, hr, hn1, hn2⟩ := h
  have hname := fun w => name_any a w
  have hd : decide (chk a = 0) = true := by simpa using ha
  rw [hd] at hname
  have D1 := Lib.hid (fun w (hv : VarT w) => digits_any r w hv (by omega))
  have D2 := Lib.hid (fun w (hv : VarT w) => digits_any n w hv (by omega))
  have Hname := Lib.hid hname
  have Hb := Lib.hid (conf_bs a r n hr)
  have la : (bs a).size ≤ 8 := (chk_ok.1 ha).2.2
  have l1 : (bs (digs r)).size ≤ 5 := digs_len5 (by omega)
  have l2 : (bs (digs n)).size ≤ 5 := digs_len5 (by omega)
  have ls : (⟨#[126]⟩ : ByteArray).size = 1 := rfl
  have lt : (⟨#[46]⟩ : ByteArray).size = 1 := rfl
  generalize bs a = A at *
  generalize bs (digs r) = E1 at *
  generalize bs (digs n) = E2 at *
  clear hname hd ha
  have z1 : ¬ 9223372036854775807 < A.size + 1 := by omega
  have z2 : ¬ 9223372036854775807 < A.size + 1 + E1.size := by omega
  have z3 : ¬ 9223372036854775807 < A.size + 1 + E1.size + 1 := by omega
  have z4 : ¬ 9223372036854775807 < A.size + 1 + E1.size + 1 + E2.size := by omega
  have r1 : (r : Int) < 8 := by omega
  have r0 : (0 : Int) ≤ r := by omega
  have n0 : ((n : Int) == 0) = false := by simp; omega
  have n1 : (n : Int) ≤ 65535 := by omega
  have n2 : (1 : Int) ≤ n := by omega
  go_enter Tryd.func38, Tryd.ntmps38
  have hB := Blk.alloc w 61 #[.int .u8 r, .int .u32 n]
  have f0 : Fr w (w.alloc (.cells #[.int .u8 r, .int .u32 n] 61)) := (Frm.refl _ w).alloc _
  go_wp2_with fail
  refine (Hname.out _).mono ?_
  rintro e w1 ⟨rfl, f1⟩
  have hB1 := hB.keep f1 (fun h => h)
  have c0 := hB1.cell 0 rfl
  have c1 := hB1.cell 1 rfl
  have f01 := f0.trans f1
  have hv1 := hv.keep f01
  clear hB hB1 f0 f1
  obtain ⟨g, hg⟩ : ∃ g, w.heap.size = g := ⟨_, rfl⟩
  rw [hg] at c0 c1 ⊢
  clear hg
  go_wp2_with fail
  have hvd : VarT w1.drew := hv1.keep ((Frm.refl _ w1).drew)
  have hcv : IntKind.u32.wrap (r : Int) = r := IntWalk.u32_in _ (by omega)
  go_region_held3 (fun w' => w'.cell? ⟨g, 0, none⟩ = some (.int .u8 r) ∧ w'.cell? ⟨g, 1, none⟩ = some (.int .u32 n) ∧ VarT w' ∧ Frm (fun _ => False) w w')
    (((try dsimp only); (try go_split_ands); (repeat' apply And.intro) <;> (first
      | assumption
      | exact Frm.drew (by assumption)
      | exact Frm.cellF gg (by assumption)
      | exact VarT.keep (by assumption) gg
      | (refine VarT.keep (by assumption) ((Frm.refl _ _).drew))
      | (refine Frm.trans ?_ gg; assumption)
      | go_keep)))
    (first
      | (go_at_call 68; (with_reducible refine Calls.mono (D1.out _ ?_) ?_); (any_goals (first | exact hvd | exact hvd.keep (by assumption) | exact (show (_ ∧ _ ∧ _ ∧ _) by assumption).2.2.1)); rintro e ww ⟨rfl, gg⟩)
      | (go_at_call 68; (with_reducible refine Calls.mono (D2.out _ ?_) ?_); (any_goals (first | exact hvd | exact hvd.keep (by assumption) | exact (show (_ ∧ _ ∧ _ ∧ _) by assumption).2.2.1)); rintro e ww ⟨rfl, gg⟩))
  rename_i hh
  obtain ⟨_, _, _, ff⟩ := hh
  clear D1 D2
  go_wp2_with fail
  go_ret2
  exact ⟨by rw [Hb.out]; rfl, ff⟩

set_option maxRecDepth 100000 in
set_option maxHeartbeats 4000000 in
theorem conflict_no (a : List UInt8) (r n : Nat) (w : World) (h : ¬ okd a r n) :
    Calls Tryd.prog 38 #[.string (bs a), .agg #[.int .u8 r, .int .u32 n]] w (ConfTo ([], 4) w) := by
  have hname := fun w => name_any a w
  have hB := Blk.alloc w 61 #[.int .u8 r, .int .u32 n]
  have f0 : Fr w (w.alloc (.cells #[.int .u8 r, .int .u32 n] 61)) := (Frm.refl _ w).alloc _
  by_cases ha : chk a = 0
  · have hd : decide (chk a = 0) = true := by simpa using ha
    rw [hd] at hname
    have Hname := Lib.hid hname
    have ho : 8 ≤ r ∨ n = 0 ∨ 65535 < n := by
      rcases Nat.lt_or_ge r 8 with h1 | h1
      · rcases Nat.eq_zero_or_pos n with h2 | h2
        · exact .inr (.inl h2)
        · rcases Nat.lt_or_ge 65535 n with h3 | h3
          · exact .inr (.inr h3)
          · exact absurd ⟨ha, by omega, by omega, h3⟩ h
      · exact .inl h1
    clear hname hd ha h
    generalize bs a = A at *
    by_cases h1 : 8 ≤ r
    · have r1 : (8 : Int) ≤ r := by omega
      clear ho
      go_enter Tryd.func38, Tryd.ntmps38
      go_wp2_with fail
      refine (Hname.out _).mono ?_
      rintro e w1 ⟨rfl, f1⟩
      have hB1 := hB.keep f1 (fun h => h)
      have c0 := hB1.cell 0 rfl
      have c1 := hB1.cell 1 rfl
      have f01 := f0.trans f1
      clear hB hB1 f0 f1
      go_wp2_with fail
      go_ret2
      exact ⟨rfl, f01⟩
    · have r1 : (r : Int) < 8 := by omega
      by_cases h2 : n = 0
      · subst h2
        clear ho
        go_enter Tryd.func38, Tryd.ntmps38
        go_wp2_with fail
        refine (Hname.out _).mono ?_
        rintro e w1 ⟨rfl, f1⟩
        have hB1 := hB.keep f1 (fun h => h)
        have c0 := hB1.cell 0 rfl
        have c1 := hB1.cell 1 rfl
        have f01 := f0.trans f1
        clear hB hB1 f0 f1
        go_wp2_with fail
        go_ret2
        exact ⟨rfl, f01⟩
      · have n0 : ((n : Int) == 0) = false := by simp; omega
        have n1 : (65535 : Int) < n := by omega
        clear ho h2
        go_enter Tryd.func38, Tryd.ntmps38
        go_wp2_with fail
        refine (Hname.out _).mono ?_
        rintro e w1 ⟨rfl, f1⟩
        have hB1 := hB.keep f1 (fun h => h)
        have c0 := hB1.cell 0 rfl
        have c1 := hB1.cell 1 rfl
        have f01 := f0.trans f1
        clear hB hB1 f0 f1
        go_wp2_with fail
        go_ret2
        exact ⟨rfl, f01⟩
  · have hd : decide (chk a = 0) = false := by simpa using ha
    rw [hd] at hname
    have Hname := Lib.hid hname
    clear hname hd ha h
    generalize bs a = A at *
    go_enter Tryd.func38, Tryd.ntmps38
    go_wp2_with fail
    refine (Hname.out _).mono ?_
    rintro e w1 ⟨rfl, f1⟩
    have f01 := f0.trans f1
    clear hB f0 f1
    go_wp2_with fail
    go_ret2
    exact ⟨rfl, f01⟩
theorem conflictT_any (a : List UInt8) (r n : Nat) (w : World) (hv : VarT w) :
    Calls Tryd.prog 38 #[.string (bs a), .agg #[.int .u8 r, .int .u32 n]] w (ConfTo (conflict a r n) w) := by
  by_cases h : okd a r n
  · rw [conflict_good h]; exact conflict_yes a r n w hv h
  · have e : conflict a r n = ([], 4) := by
      have h1 := fun e => h (conflict_ok.1 e)
      unfold conflict at h1 ⊢
      split
      · rfl
      · rename_i h2; rw [if_neg h2] at h1; exact absurd rfl h1
    rw [e]
    exact conflict_no a r n w h

end Go.Proofs.YtiokabhidjafeaaDoor

