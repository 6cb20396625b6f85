/- PathNames: what the law's call answers. Conditions: the tables and errors of strconv lie as the program's text lays them (Vars). -/
import Derived.Test.YtffhakomnkicoaaDoorFew
import Derived.Test.YtffhakomnkicoaaDoorPrefC
namespace Go.Proofs.YtffhakomnkicoaaDoor
open Go.RowKit

theorem fewb_all {l : List (List UInt8)} (h : fewb l = true) : ∀ s ∈ l, s.length ≤ 100 := by
  have hl := fewb_len h
  unfold fewb at h
  rw [Bool.and_eq_true, List.take_of_length_le (by omega)] at h
  intro s hs
  simpa using List.all_eq_true.1 h.1 s hs
theorem text_two (l : List (List UInt8)) : (text l).2 ≤ 4 := by
  unfold text
  split
  · exact Nat.le_refl _
  · split
    · show 3 ≤ 4; decide
    · exact Nat.zero_le _
theorem conflict_two (a : List UInt8) (r n : Nat) : (conflict a r n).2 ≤ 4 := by
  unfold conflict
  split
  · exact Nat.le_refl _
  · exact Nat.zero_le _
set_option maxRecDepth 100000 in
set_option maxHeartbeats 2000000 in
theorem pathNames_any (v : Value) (l : List (List UInt8)) (a : List UInt8) (r n : Nat) (w : World) (hv : Vars w) (h : Strs w v l) (_ : r < 256) (_ : n < 4294967296) :
    Calls Tryd.prog 4 #[v, .string (bs a), .agg #[.int .u8 r, .int .u32 n]] w fun e w' => e = .returned (.bool true) ∧ Fr w w' := by
  have hsl := h.slice
  have hfew := fun w1 (f : Fr w w1) => few_any v l w1 (h.keepF f)
  have hB := Blk.alloc w 31 #[.int .u8 r, .int .u32 n]
  have f0 : Fr w (w.alloc (.cells #[.int .u8 r, .int .u32 n] 31)) := (Frm.refl _ w).alloc _
  cases hf : fewb l with
  | false =>
    rw [hf] at hfew
    have Hfew := Lib.hid hfew
    clear hfew hf
    obtain ⟨x, cap, rfl, _, _⟩ := hsl
    go_enter Tryd.func4, Tryd.ntmps4
    go_wp2_with fail
    refine (Hfew.out _ f0).mono ?_
    rintro e w1 ⟨rfl, rfl⟩
    go_wp2_with fail
    refine (works_any _ (hv.keep f0)).mono ?_
    rintro e wB ⟨rfl, fB⟩
    go_wp2_with fail
    go_ret
    exact ⟨rfl, f0.trans fB⟩
  | true =>
    have hlen := fewb_len hf
    have hall := fewb_all hf
    rw [hf] at hfew
    have Hfew := Lib.hid hfew
    clear hfew hf
    by_cases h300 : a.length ≤ 300
    · have hps : ((bs a).size : Int) ≤ 300 := by rw [bs_size]; omega
      have HT := Lib.hid (fun w1 (f : Fr w w1) => by have := text_any v l w1 (h.keepF f) (by omega); unfold TextTo at this; exact this)
      have HRT := Lib.hid (fun w1 (f : Fr w w1) => by have := rtext_any v l w1 (h.keepF f) (by omega) (fun s hs => by have := hall s hs; omega); unfold TextTo at this; exact this)
      have HC := Lib.hid (fun w1 (f : Fr w w1) => by have := conflict_any a r n w1 (hv.keep f); unfold ConfTo at this; exact this)
      have HRC := Lib.hid (fun w1 => by have := rconflict_any a r n w1 (by omega); unfold ConfTo at this; exact this)
      have ht := text_two l
      have hc := conflict_two a r n
      generalize text l = X at *
      generalize conflict a r n = Y at *
      obtain ⟨x1, x2⟩ := X
      obtain ⟨y1, y2⟩ := Y
      dsimp only at HT HRT HC HRC ht hc
      have q1 : ((bs x1).toList == (bs x1).toList) = true := beq_self_eq_true _
      have q2 : ((bs y1).toList == (bs y1).toList) = true := beq_self_eq_true _
      have q3 : ((x2 : Int) == (x2 : Int)) = true := beq_self_eq_true _
      have q4 : ((y2 : Int) == (y2 : Int)) = true := beq_self_eq_true _
      have e1 : IntKind.i64.wrap (x2 : Int) = x2 := IntWalk.i64_in _ (by omega)
      have e2 : IntKind.i64.wrap (y2 : Int) = y2 := IntWalk.i64_in _ (by omega)
      generalize bs x1 = A at *
      generalize bs y1 = B at *
      obtain ⟨x, cap, rfl, _, _⟩ := hsl
      clear hall h
      go_enter Tryd.func4, Tryd.ntmps4
      go_wp2_with fail
      refine (Hfew.out _ f0).mono ?_
      rintro e w1 ⟨rfl, rfl⟩
      go_wp2_with fail
      refine (HT.out _ f0).mono ?_
      rintro e w1 ⟨rfl, f1⟩
      have g1 := f0.trans f1
      go_wp2_with fail
      refine (HRT.out _ g1).mono ?_
      rintro e w2 ⟨rfl, f2⟩
      have g2 := g1.trans f2
      have hB2 := (hB.keep f1 (fun h => h)).keep f2 (fun h => h)
      have c0 := hB2.cell 0 rfl
      have c1 := hB2.cell 1 rfl
      clear f1 f2 f0 hB
      go_wp2_with fail
      refine (HC.out _ g2).mono ?_
      rintro e w3 ⟨rfl, f3⟩
      have g3 := g2.trans f3
      have hB3 := hB2.keep f3 (fun h => h)
      have d0 := hB3.cell 0 rfl
      have d1 := hB3.cell 1 rfl
      clear g2 f3 c0 c1 hB2 hB3
      go_wp2_with fail
      refine (HRC.out _).mono ?_
      rintro e w4 ⟨rfl, f4⟩
      have g4 := g3.trans f4
      clear g3 f4
      go_wp2_with fail
      refine (works_any _ (hv.keep g4)).mono ?_
      rintro e w5 ⟨rfl, f5⟩
      go_wp2_with fail
      go_ret
      exact ⟨rfl, g4.trans f5⟩
    · have hps : (300 : Int) < ((bs a).size : Int) := by rw [bs_size]; omega
      obtain ⟨x, cap, rfl, _, _⟩ := hsl
      go_enter Tryd.func4, Tryd.ntmps4
      go_wp2_with fail
      refine (Hfew.out _ f0).mono ?_
      rintro e w1 ⟨rfl, rfl⟩
      go_wp2_with fail
      refine (works_any _ (hv.keep f0)).mono ?_
      rintro e wB ⟨rfl, fB⟩
      go_wp2_with fail
      go_ret
      exact ⟨rfl, f0.trans fB⟩
end Go.Proofs.YtffhakomnkicoaaDoor
