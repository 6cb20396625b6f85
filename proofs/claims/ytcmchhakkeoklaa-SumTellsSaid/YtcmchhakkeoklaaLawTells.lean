/- SumTells: another byte in one place is told; so are two unlike bytes, at most 256 places apart, that changed their places. No condition. -/
import Derived.Test.YtcmchhakkeoklaaSumW
import Derived.Test.YtcmchhakkeoklaaConv
import Derived.Deep.RegionHeld3
import Derived.IntWalk
import Derived.Deep.DeepCutAuto
import Derived.Deep.QuietTactic
import Derived.BigQuiet
namespace Go.Proofs.Ytcmchhakkeoklaa
open Go.RowKit
/-- Two numbers, as an array's value. -/
def yv (x y : Nat) : Value := .agg #[.int .u32 x, .int .u32 y]

theorem bs_mid (l : List UInt8) (a b : Nat) : (bs l).extract a b = bs ((l.drop a).take (b - a)) := by
  apply ByteArray.ext
  simp only [ByteArray.data_extract]
  apply Array.ext'
  simp [bs, List.extract_eq_take_drop]

theorem cut_one (s : List UInt8) (i : Nat) (hi : i < s.length) : s = s.take i ++ [s[i]] ++ s.drop (i + 1) := by
  rw [List.append_assoc, List.singleton_append, List.getElem_cons_drop, List.take_append_drop]
theorem cut_two (s : List UInt8) (i j : Nat) (hij : i < j) (hj : j < s.length) : s.drop (i + 1) = (s.drop (i + 1)).take (j - (i + 1)) ++ [s[j]] ++ s.drop (j + 1) := by
  have h := cut_one (s.drop (i + 1)) (j - (i + 1)) (by rw [List.length_drop]; omega)
  rw [List.drop_drop, List.getElem_drop] at h
  have e1 : i + 1 + (j - (i + 1)) = j := by omega
  have e2 : i + 1 + (j - (i + 1) + 1) = j + 1 := by omega
  rw [e2] at h
  simp only [e1] at h
  exact h

theorem beq_of_iff {a b c d : Int} (h : a = b ↔ c = d) : (a == b) = (c == d) := by
  rw [Bool.eq_iff_iff, beq_iff_eq, beq_iff_eq]
  exact h
theorem tells_one (p r : List UInt8) (a c : UInt8) : (((num (sm (p ++ [c] ++ r)) : Nat) : Int) == ((num (sm (p ++ [a] ++ r)) : Nat) : Int)) = ((a.toNat : Int) == (c.toNat : Int)) := by
  apply beq_of_iff
  constructor
  · intro h
    rw [sm_one p r c a (num_inj (sm_lt _) (sm_lt _) (by omega))]
  · intro h
    obtain rfl : a = c := UInt8.toNat_inj.1 (by omega)
    rfl
theorem tells_two (p m t : List UInt8) (a b : UInt8) (hm : m.length < 256) : (((num (sm (p ++ [b] ++ m ++ [a] ++ t)) : Nat) : Int) == ((num (sm (p ++ [a] ++ m ++ [b] ++ t)) : Nat) : Int)) = ((a.toNat : Int) == (b.toNat : Int)) := by
  apply beq_of_iff
  constructor
  · intro h
    rw [sm_two p m t b a hm (num_inj (sm_lt _) (sm_lt _) (by omega))]
  · intro h
    obtain rfl : a = b := UInt8.toNat_inj.1 (by omega)
    rfl

set_option maxRecDepth 100000 in
set_option maxHeartbeats 4000000 in
theorem sumTells_main (s : List UInt8) (x y : Nat) (c : UInt8) (w : World) (hs : s.length ≤ 131072) (h0 : 0 < s.length) (hx : x < 4294967296) (hy : y < 4294967296) :
    Calls Try.prog 7 #[.string (bs s), yv x y, .int .u8 c.toNat] w fun e w' => e = .returned (.bool true) ∧ Frm (fun _ => False) w w' := by
  have hsz : (bs s).size ≤ 131072 := hs
  have hsz0 : 0 < (bs s).size := h0
  have hne : (((bs s).size : Int) == 0) = false := by rw [beq_eq_false_iff_ne]; omega
  obtain ⟨i0, hi0, hi1⟩ : ∃ i : Nat, (x : Int) % ((bs s).size : Int) = (i : Int) ∧ i < (bs s).size := ⟨x % (bs s).size, by omega, Nat.mod_lt _ hsz0⟩
  obtain ⟨j0, hj0, hj1⟩ : ∃ i : Nat, (y : Int) % ((bs s).size : Int) = (i : Int) ∧ i < (bs s).size := ⟨y % (bs s).size, by omega, Nat.mod_lt _ hsz0⟩
  obtain ⟨i, j, hij, hi, hj, hor⟩ : ∃ i j : Nat, i ≤ j ∧ i < (bs s).size ∧ j < (bs s).size ∧ ((i0 = i ∧ j0 = j) ∨ (i0 = j ∧ j0 = i)) := by
    rcases Nat.le_total i0 j0 with h | h
    · exact ⟨i0, j0, h, hi1, hj1, .inl ⟨rfl, rfl⟩⟩
    · exact ⟨j0, i0, h, hj1, hi1, .inr ⟨rfl, rfl⟩⟩
  clear hi1 hj1
  -- the pieces
  have hil : i < s.length := hi
  have hc1 := cut_one s i hil
  obtain ⟨p, hp, hpl⟩ : ∃ p, s.take i = p ∧ p.length ≤ 131072 := ⟨_, rfl, by rw [List.length_take]; omega⟩
  obtain ⟨r, hr, hrl⟩ : ∃ r, s.drop (i + 1) = r ∧ r.length ≤ 131072 := ⟨_, rfl, by rw [List.length_drop]; omega⟩
  rw [hp, hr] at hc1
  have x1 : (bs s).extract 0 i = bs p := by rw [bs_mid, List.drop_zero, Nat.sub_zero, hp]
  have x2 : (bs s).extract (i + 1) (bs s).size = bs r := by rw [bs_mid, hr, List.take_of_length_le (by rw [bs_size, ← hr, List.length_drop]; omega)]
  have hxs1 : (bs p).size ≤ 131072 := hpl
  have hxs2 : (bs r).size ≤ 131072 := hrl
  have hone : bs p ++ bs [c] ++ bs r = bs (p ++ [c] ++ r) := by rw [bs_append, bs_append]
  have ht1 := tells_one p r s[i] c
  rw [← hc1] at ht1
  have hol : (p ++ [c] ++ r).length ≤ 9223372036854775807 := by simp; omega
  obtain ⟨one, ho⟩ : ∃ o, p ++ [c] ++ r = o := ⟨_, rfl⟩
  rw [ho] at hone hol ht1
  have K1 : ∀ w, Calls Try.prog 10 #[.string (bs one)] w fun e w' => e = .returned (.int .u32 (num (sm one))) ∧ Frm (fun _ => False) w w' := fun w => sum_any one w hol
  have K2 : ∀ w, Calls Try.prog 10 #[.string (bs s)] w fun e w' => e = .returned (.int .u32 (num (sm s))) ∧ Frm (fun _ => False) w w' := fun w => sum_any s w (by omega)
  obtain ⟨A, hA⟩ : ∃ A, num (sm one) = A := ⟨_, rfl⟩
  obtain ⟨B, hB⟩ : ∃ B, num (sm s) = B := ⟨_, rfl⟩
  simp only [hA] at K1 ht1
  simp only [hB] at K2 ht1
  obtain ⟨q, hq⟩ : ∃ q : Bool, ((s[i].toNat : Int) == (c.toNat : Int)) = q := ⟨_, rfl⟩
  rw [hq] at ht1
  have hq' : ((((bs s)[i]'hi).toNat : Int) == (c.toNat : Int)) = q := hq
  have H1 := Lib.hid K1
  have H2 := Lib.hid K2
  have HP := Lib.hid hp
  have HR := Lib.hid hr
  have HC1 := Lib.hid hc1
  have HB := Lib.hid hB
  have hc : c.toNat < 256 := UInt8.toNat_lt _
  have hb1 : ((bs s)[i]'hi).toNat < 256 := UInt8.toNat_lt _
  clear K1 K2 hp hr hc1 hB hA ho hq
  unfold yv
  have hl1 : (bs p).size + (bs [c]).size ≤ 9223372036854775807 := by have : (bs [c]).size = 1 := rfl; omega
  have hl2 : (bs p ++ bs [c]).size + (bs r).size ≤ 9223372036854775807 := by rw [ByteArray.size_append]; have : (bs [c]).size = 1 := rfl; omega
  have hcase : i = j ∨ (i < j ∧ 256 < j - i) ∨ (i < j ∧ j - i ≤ 256) := by omega
  rcases hcase with rfl | ⟨hlt, hfar⟩ | ⟨hlt, hnear⟩
  · obtain ⟨rfl, rfl⟩ : i0 = i ∧ j0 = i := by rcases hor with ⟨h1, h2⟩ | ⟨h1, h2⟩ <;> exact ⟨h1, h2⟩
    clear hor hij hj
    go_enter Try.func7, Try.ntmps7
    go_wp2_with fail
    go_region
    go_wp2_with fail
    clear hi0 hj0
    have hrun : (convert 34 9 (.slice (some ⟨w.heap.size + 1, 0, none⟩) 1 1)).run Try.prog ((w.alloc (.cells #[.int .u32 x, .int .u32 y] 33)).alloc (.cells #[.int .u8 c.toNat] 5)).drew.drew = .ok (.string (bs [c])) ((w.alloc (.cells #[.int .u32 x, .int .u32 y] 33)).alloc (.cells #[.int .u8 c.toNat] 5)).drew.drew := by
      refine run_text_at Try.underlying34 Try.underlying9 Try.underlying5 _ _ 1 1 [c] rfl fun q hq => ?_
      obtain rfl : q = 0 := by omega
      have h := (Blk.alloc (w.alloc (.cells #[.int .u32 x, .int .u32 y] 33)) 5 #[.int .u8 c.toNat]).drew.drew.cell 0 rfl
      have e : (w.alloc (.cells #[.int .u32 x, .int .u32 y] 33)).heap.size = w.heap.size + 1 := by simp
      rw [e] at h
      exact h
    go_region
    go_wp2_with fail
    clear hrun
    have f0 : Frm (fun _ => False) w ((w.alloc (.cells #[.int .u32 x, .int .u32 y] 33)).alloc (.cells #[.int .u8 c.toNat] 5)).drew.drew := (((Frm.refl _ w).alloc _).alloc _).drew.drew
    obtain ⟨w0, hw0⟩ : ∃ w0, ((w.alloc (.cells #[.int .u32 x, .int .u32 y] 33)).alloc (.cells #[.int .u8 c.toNat] 5)).drew.drew = w0 := ⟨_, rfl⟩
    rw [hw0] at f0 ⊢
    clear hw0
    go_cut [60] (fun s60 wx => s60 = .bool false ∧ Frm (fun _ => False) w wx)
    case first =>
      go_region_held3 (fun w' => Frm (fun _ => False) w w')
        (first
          | assumption
          | exact f0.drew
          | (refine Frm.trans ?_ gg; assumption))
        (first
          | (go_at_call 10; (with_reducible refine (H1.out _).mono ?_); rintro e ww ⟨rfl, gg⟩)
          | (go_at_call 10; (with_reducible refine (H2.out _).mono ?_); rintro e ww ⟨rfl, gg⟩))
      all_goals
        rename_i f1
        go_wp2_with fail
        go_meet
        exact ⟨rfl, f1⟩
    case rest =>
      obtain ⟨rfl, f1⟩ := hcut
      clear f0
      go_wp2_with fail
      refine (works_any _).mono ?_
      rintro e w9 ⟨rfl, g9⟩
      go_wp2_with fail
      go_ret
      exact ⟨rfl, f1.trans g9⟩
  · rcases hor with ⟨rfl, rfl⟩ | ⟨rfl, rfl⟩
    · have hfar2 : (256 : Int) < (j0 : Int) - (i0 : Int) := by omega
      have hne2 : ((i0 : Int) == (j0 : Int)) = false := by rw [beq_eq_false_iff_ne]; omega
      go_enter Try.func7, Try.ntmps7
      go_wp2_with fail
      go_region
      go_wp2_with fail
      clear hi0 hj0
      have hrun : (convert 34 9 (.slice (some ⟨w.heap.size + 1, 0, none⟩) 1 1)).run Try.prog ((w.alloc (.cells #[.int .u32 x, .int .u32 y] 33)).alloc (.cells #[.int .u8 c.toNat] 5)).drew.drew = .ok (.string (bs [c])) ((w.alloc (.cells #[.int .u32 x, .int .u32 y] 33)).alloc (.cells #[.int .u8 c.toNat] 5)).drew.drew := by
        refine run_text_at Try.underlying34 Try.underlying9 Try.underlying5 _ _ 1 1 [c] rfl fun q hq => ?_
        obtain rfl : q = 0 := by omega
        have h := (Blk.alloc (w.alloc (.cells #[.int .u32 x, .int .u32 y] 33)) 5 #[.int .u8 c.toNat]).drew.drew.cell 0 rfl
        have e : (w.alloc (.cells #[.int .u32 x, .int .u32 y] 33)).heap.size = w.heap.size + 1 := by simp
        rw [e] at h
        exact h
      go_region
      go_wp2_with fail
      clear hrun
      have f0 : Frm (fun _ => False) w ((w.alloc (.cells #[.int .u32 x, .int .u32 y] 33)).alloc (.cells #[.int .u8 c.toNat] 5)).drew.drew := (((Frm.refl _ w).alloc _).alloc _).drew.drew
      obtain ⟨w0, hw0⟩ : ∃ w0, ((w.alloc (.cells #[.int .u32 x, .int .u32 y] 33)).alloc (.cells #[.int .u8 c.toNat] 5)).drew.drew = w0 := ⟨_, rfl⟩
      rw [hw0] at f0 ⊢
      clear hw0
      go_cut [60] (fun s60 wx => s60 = .bool false ∧ Frm (fun _ => False) w wx)
      case first =>
        go_region_held3 (fun w' => Frm (fun _ => False) w w')
          (first
            | assumption
            | exact f0.drew
            | (refine Frm.trans ?_ gg; assumption))
          (first
            | (go_at_call 10; (with_reducible refine (H1.out _).mono ?_); rintro e ww ⟨rfl, gg⟩)
            | (go_at_call 10; (with_reducible refine (H2.out _).mono ?_); rintro e ww ⟨rfl, gg⟩))
        all_goals
          rename_i f1
          go_wp2_with fail
          go_meet
          exact ⟨rfl, f1⟩
      case rest =>
        obtain ⟨rfl, f1⟩ := hcut
        clear f0
        go_wp2_with fail
        refine (works_any _).mono ?_
        rintro e w9 ⟨rfl, g9⟩
        go_wp2_with fail
        go_ret
        exact ⟨rfl, f1.trans g9⟩
    · have hfar2 : (256 : Int) < (i0 : Int) - (j0 : Int) := by omega
      have hne2 : ((j0 : Int) == (i0 : Int)) = false := by rw [beq_eq_false_iff_ne]; omega
      go_enter Try.func7, Try.ntmps7
      go_wp2_with fail
      go_region
      go_wp2_with fail
      clear hi0 hj0
      have hrun : (convert 34 9 (.slice (some ⟨w.heap.size + 1, 0, none⟩) 1 1)).run Try.prog ((w.alloc (.cells #[.int .u32 x, .int .u32 y] 33)).alloc (.cells #[.int .u8 c.toNat] 5)).drew.drew = .ok (.string (bs [c])) ((w.alloc (.cells #[.int .u32 x, .int .u32 y] 33)).alloc (.cells #[.int .u8 c.toNat] 5)).drew.drew := by
        refine run_text_at Try.underlying34 Try.underlying9 Try.underlying5 _ _ 1 1 [c] rfl fun q hq => ?_
        obtain rfl : q = 0 := by omega
        have h := (Blk.alloc (w.alloc (.cells #[.int .u32 x, .int .u32 y] 33)) 5 #[.int .u8 c.toNat]).drew.drew.cell 0 rfl
        have e : (w.alloc (.cells #[.int .u32 x, .int .u32 y] 33)).heap.size = w.heap.size + 1 := by simp
        rw [e] at h
        exact h
      go_region
      go_wp2_with fail
      clear hrun
      have f0 : Frm (fun _ => False) w ((w.alloc (.cells #[.int .u32 x, .int .u32 y] 33)).alloc (.cells #[.int .u8 c.toNat] 5)).drew.drew := (((Frm.refl _ w).alloc _).alloc _).drew.drew
      obtain ⟨w0, hw0⟩ : ∃ w0, ((w.alloc (.cells #[.int .u32 x, .int .u32 y] 33)).alloc (.cells #[.int .u8 c.toNat] 5)).drew.drew = w0 := ⟨_, rfl⟩
      rw [hw0] at f0 ⊢
      clear hw0
      go_cut [60] (fun s60 wx => s60 = .bool false ∧ Frm (fun _ => False) w wx)
      case first =>
        go_region_held3 (fun w' => Frm (fun _ => False) w w')
          (first
            | assumption
            | exact f0.drew
            | (refine Frm.trans ?_ gg; assumption))
          (first
            | (go_at_call 10; (with_reducible refine (H1.out _).mono ?_); rintro e ww ⟨rfl, gg⟩)
            | (go_at_call 10; (with_reducible refine (H2.out _).mono ?_); rintro e ww ⟨rfl, gg⟩))
        all_goals
          rename_i f1
          go_wp2_with fail
          go_meet
          exact ⟨rfl, f1⟩
      case rest =>
        obtain ⟨rfl, f1⟩ := hcut
        clear f0
        go_wp2_with fail
        refine (works_any _).mono ?_
        rintro e w9 ⟨rfl, g9⟩
        go_wp2_with fail
        go_ret
        exact ⟨rfl, f1.trans g9⟩
  · have hjl : j < s.length := hj
    have hc2 := cut_two s i j hlt hjl
    obtain ⟨m, hm, hml⟩ : ∃ m, (s.drop (i + 1)).take (j - (i + 1)) = m ∧ m.length < 256 := ⟨_, rfl, by rw [List.length_take, List.length_drop]; omega⟩
    obtain ⟨t, ht, htl⟩ : ∃ t, s.drop (j + 1) = t ∧ t.length ≤ 131072 := ⟨_, rfl, by rw [List.length_drop]; omega⟩
    rw [hm, ht, HR.out] at hc2
    have x3 : (bs s).extract (i + 1) j = bs m := by rw [bs_mid, hm]
    have x4 : (bs s).extract (j + 1) (bs s).size = bs t := by rw [bs_mid, ht, List.take_of_length_le (by rw [bs_size, ← ht, List.length_drop]; omega)]
    have x5 : (bs s).extract i (i + 1) = bs [s[i]] := by rw [bs_mid, Nat.add_sub_cancel_left, List.drop_eq_getElem_cons hil, List.take_succ_cons, List.take_zero]
    have x6 : (bs s).extract j (j + 1) = bs [s[j]] := by rw [bs_mid, Nat.add_sub_cancel_left, List.drop_eq_getElem_cons hjl, List.take_succ_cons, List.take_zero]
    have htwo : bs p ++ bs [s[j]] ++ bs m ++ bs [s[i]] ++ bs t = bs (p ++ [s[j]] ++ m ++ [s[i]] ++ t) := by rw [bs_append, bs_append, bs_append, bs_append]
    have hs2 : p ++ [s[i]] ++ m ++ [s[j]] ++ t = s := by
      have h := HC1.out
      rw [hc2] at h
      have h2 : p ++ [s[i]] ++ (m ++ [s[j]] ++ t) = p ++ [s[i]] ++ m ++ [s[j]] ++ t := by simp only [List.append_assoc]
      exact (h.trans h2).symm
    have ht2 := tells_two p m t s[i] s[j] hml
    rw [hs2, HB.out] at ht2
    have htl2 : (p ++ [s[j]] ++ m ++ [s[i]] ++ t).length ≤ 9223372036854775807 := by simp; omega
    have z1 : (bs [s[j]]).size = 1 := rfl
    have z2 : (bs [s[i]]).size = 1 := rfl
    have l3 : (bs p).size + (bs [s[j]]).size ≤ 9223372036854775807 := by rw [z1]; omega
    have l4 : (bs p ++ bs [s[j]]).size + (bs m).size ≤ 9223372036854775807 := by rw [ByteArray.size_append, z1, bs_size m]; omega
    have l5 : (bs p ++ bs [s[j]] ++ bs m).size + (bs [s[i]]).size ≤ 9223372036854775807 := by rw [ByteArray.size_append, ByteArray.size_append, z1, z2, bs_size m]; omega
    have l6 : (bs p ++ bs [s[j]] ++ bs m ++ bs [s[i]]).size + (bs t).size ≤ 9223372036854775807 := by rw [ByteArray.size_append, ByteArray.size_append, ByteArray.size_append, z1, z2, bs_size m, bs_size t]; omega
    clear z1 z2
    obtain ⟨two, hto⟩ : ∃ o, p ++ [s[j]] ++ m ++ [s[i]] ++ t = o := ⟨_, rfl⟩
    rw [hto] at htwo htl2 ht2
    have K3 : ∀ w, Calls Try.prog 10 #[.string (bs two)] w fun e w' => e = .returned (.int .u32 (num (sm two))) ∧ Frm (fun _ => False) w w' := fun w => sum_any two w htl2
    obtain ⟨C, hC⟩ : ∃ C, num (sm two) = C := ⟨_, rfl⟩
    simp only [hC] at K3 ht2
    obtain ⟨q2, hq2⟩ : ∃ q : Bool, ((s[i].toNat : Int) == (s[j].toNat : Int)) = q := ⟨_, rfl⟩
    rw [hq2] at ht2
    have hq2' : ((((bs s)[i]'hi).toNat : Int) == (((bs s)[j]'hj).toNat : Int)) = q2 := hq2
    have hb2 : ((bs s)[j]'hj).toNat < 256 := UInt8.toNat_lt _
    have H3 := Lib.hid K3
    have HM := Lib.hid hm
    have HT := Lib.hid ht
    have hsj : s[j] = s[j]'hjl := rfl
    obtain ⟨a, ha⟩ : ∃ a, s[i] = a := ⟨_, rfl⟩
    obtain ⟨b, hb⟩ : ∃ b, s[j] = b := ⟨_, rfl⟩
    rw [ha] at x5
    rw [hb] at x6
    rw [ha, hb] at htwo
    rw [hb] at l3 l4
    rw [ha, hb] at l5 l6
    clear K3 hm ht hC hto hq2 hc2 hs2 hsj ha hb
    rcases hor with ⟨rfl, rfl⟩ | ⟨rfl, rfl⟩
    · have hnear2 : (j0 : Int) - (i0 : Int) ≤ 256 := by omega
      have hne2 : ((i0 : Int) == (j0 : Int)) = false := by rw [beq_eq_false_iff_ne]; omega
      go_enter Try.func7, Try.ntmps7
      go_wp2_with fail
      go_region
      go_wp2_with fail
      clear hi0 hj0
      have hrun : (convert 34 9 (.slice (some ⟨w.heap.size + 1, 0, none⟩) 1 1)).run Try.prog ((w.alloc (.cells #[.int .u32 x, .int .u32 y] 33)).alloc (.cells #[.int .u8 c.toNat] 5)).drew.drew = .ok (.string (bs [c])) ((w.alloc (.cells #[.int .u32 x, .int .u32 y] 33)).alloc (.cells #[.int .u8 c.toNat] 5)).drew.drew := by
        refine run_text_at Try.underlying34 Try.underlying9 Try.underlying5 _ _ 1 1 [c] rfl fun q hq => ?_
        obtain rfl : q = 0 := by omega
        have h := (Blk.alloc (w.alloc (.cells #[.int .u32 x, .int .u32 y] 33)) 5 #[.int .u8 c.toNat]).drew.drew.cell 0 rfl
        have e : (w.alloc (.cells #[.int .u32 x, .int .u32 y] 33)).heap.size = w.heap.size + 1 := by simp
        rw [e] at h
        exact h
      go_region
      go_wp2_with fail
      clear hrun
      have f0 : Frm (fun _ => False) w ((w.alloc (.cells #[.int .u32 x, .int .u32 y] 33)).alloc (.cells #[.int .u8 c.toNat] 5)).drew.drew := (((Frm.refl _ w).alloc _).alloc _).drew.drew
      obtain ⟨w0, hw0⟩ : ∃ w0, ((w.alloc (.cells #[.int .u32 x, .int .u32 y] 33)).alloc (.cells #[.int .u8 c.toNat] 5)).drew.drew = w0 := ⟨_, rfl⟩
      rw [hw0] at f0 ⊢
      clear hw0
      go_cut [60] (fun s60 wx => s60 = .bool false ∧ Frm (fun _ => False) w wx)
      case first =>
        go_region_held3 (fun w' => Frm (fun _ => False) w w')
          (first
            | assumption
            | exact f0.drew
            | (refine Frm.trans ?_ gg; assumption))
          (first
            | (go_at_call 10; (with_reducible refine (H1.out _).mono ?_); rintro e ww ⟨rfl, gg⟩)
            | (go_at_call 10; (with_reducible refine (H2.out _).mono ?_); rintro e ww ⟨rfl, gg⟩))
        all_goals
          rename_i f1
          go_wp2_with fail
          go_meet
          exact ⟨rfl, f1⟩
      case rest =>
        obtain ⟨rfl, f1⟩ := hcut
        clear f0
        go_wp2_with fail
        go_quiet (fail)
        go_wp2_with fail
        go_region_held3 (fun w' => Frm (fun _ => False) w w')
          (first
            | assumption
            | exact (f1.drewN _).drew
            | (refine Frm.trans ?_ gg; assumption))
          (first
            | (go_at_call 10; (with_reducible refine (H3.out _).mono ?_); rintro e ww ⟨rfl, gg⟩)
            | (go_at_call 10; (with_reducible refine (H2.out _).mono ?_); rintro e ww ⟨rfl, gg⟩)
            | (go_at_call 9; refine (works_any _).mono ?_; rintro e ww ⟨rfl, gg⟩))
        all_goals
          rename_i f2
          go_wp2_with fail
          go_ret
          exact ⟨rfl, f2⟩
    · have hnear2 : (i0 : Int) - (j0 : Int) ≤ 256 := by omega
      have hne2 : ((j0 : Int) == (i0 : Int)) = false := by rw [beq_eq_false_iff_ne]; omega
      go_enter Try.func7, Try.ntmps7
      go_wp2_with fail
      go_region
      go_wp2_with fail
      clear hi0 hj0
      have hrun : (convert 34 9 (.slice (some ⟨w.heap.size + 1, 0, none⟩) 1 1)).run Try.prog ((w.alloc (.cells #[.int .u32 x, .int .u32 y] 33)).alloc (.cells #[.int .u8 c.toNat] 5)).drew.drew = .ok (.string (bs [c])) ((w.alloc (.cells #[.int .u32 x, .int .u32 y] 33)).alloc (.cells #[.int .u8 c.toNat] 5)).drew.drew := by
        refine run_text_at Try.underlying34 Try.underlying9 Try.underlying5 _ _ 1 1 [c] rfl fun q hq => ?_
        obtain rfl : q = 0 := by omega
        have h := (Blk.alloc (w.alloc (.cells #[.int .u32 x, .int .u32 y] 33)) 5 #[.int .u8 c.toNat]).drew.drew.cell 0 rfl
        have e : (w.alloc (.cells #[.int .u32 x, .int .u32 y] 33)).heap.size = w.heap.size + 1 := by simp
        rw [e] at h
        exact h
      go_region
      go_wp2_with fail
      clear hrun
      have f0 : Frm (fun _ => False) w ((w.alloc (.cells #[.int .u32 x, .int .u32 y] 33)).alloc (.cells #[.int .u8 c.toNat] 5)).drew.drew := (((Frm.refl _ w).alloc _).alloc _).drew.drew
      obtain ⟨w0, hw0⟩ : ∃ w0, ((w.alloc (.cells #[.int .u32 x, .int .u32 y] 33)).alloc (.cells #[.int .u8 c.toNat] 5)).drew.drew = w0 := ⟨_, rfl⟩
      rw [hw0] at f0 ⊢
      clear hw0
      go_cut [60] (fun s60 wx => s60 = .bool false ∧ Frm (fun _ => False) w wx)
      case first =>
        go_region_held3 (fun w' => Frm (fun _ => False) w w')
          (first
            | assumption
            | exact f0.drew
            | (refine Frm.trans ?_ gg; assumption))
          (first
            | (go_at_call 10; (with_reducible refine (H1.out _).mono ?_); rintro e ww ⟨rfl, gg⟩)
            | (go_at_call 10; (with_reducible refine (H2.out _).mono ?_); rintro e ww ⟨rfl, gg⟩))
        all_goals
          rename_i f1
          go_wp2_with fail
          go_meet
          exact ⟨rfl, f1⟩
      case rest =>
        obtain ⟨rfl, f1⟩ := hcut
        clear f0
        go_wp2_with fail
        go_quiet (fail)
        go_wp2_with fail
        go_region_held3 (fun w' => Frm (fun _ => False) w w')
          (first
            | assumption
            | exact (f1.drewN _).drew
            | (refine Frm.trans ?_ gg; assumption))
          (first
            | (go_at_call 10; (with_reducible refine (H3.out _).mono ?_); rintro e ww ⟨rfl, gg⟩)
            | (go_at_call 10; (with_reducible refine (H2.out _).mono ?_); rintro e ww ⟨rfl, gg⟩)
            | (go_at_call 9; refine (works_any _).mono ?_; rintro e ww ⟨rfl, gg⟩))
        all_goals
          rename_i f2
          go_wp2_with fail
          go_ret
          exact ⟨rfl, f2⟩

set_option maxRecDepth 100000 in
set_option maxHeartbeats 1000000 in
theorem sumTells_any (s : List UInt8) (x y : Nat) (c : UInt8) (w : World) (hx : x < 4294967296) (hy : y < 4294967296) :
    Calls Try.prog 7 #[.string (bs s), yv x y, .int .u8 c.toNat] w fun e w' => e = .returned (.bool true) ∧ Frm (fun _ => False) w w' := by
  by_cases hs : s.length ≤ 131072
  · by_cases h0 : 0 < s.length
    · exact sumTells_main s x y c w hs h0 hx hy
    · have hsz : (bs s).size ≤ 131072 := hs
      have hne : (((bs s).size : Int) == 0) = true := by rw [beq_iff_eq, bs_size]; omega
      clear hs h0
      unfold yv
      go_enter Try.func7, Try.ntmps7
      go_wp2_with fail
      refine (works_any _).mono ?_
      rintro e w7 ⟨rfl, g7⟩
      go_wp2_with fail
      go_ret
      exact ⟨rfl, ((Frm.refl _ w).alloc _).trans g7⟩
  · have htz : 131072 < (bs s).size := by rw [bs_size]; omega
    clear hs
    unfold yv
    go_enter Try.func7, Try.ntmps7
    go_wp2_with fail
    refine (works_any _).mono ?_
    rintro e w7 ⟨rfl, g7⟩
    go_wp2_with fail
    go_ret
    exact ⟨rfl, ((Frm.refl _ w).alloc _).trans g7⟩
end Go.Proofs.Ytcmchhakkeoklaa
