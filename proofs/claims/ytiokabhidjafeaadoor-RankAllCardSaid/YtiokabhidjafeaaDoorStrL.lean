/- What the library's calls on texts do at a separator of one byte: Cut, CutPrefix, LastIndex. No condition. -/
import Derived.Test.YtiokabhidjafeaaDoorPathC
import Derived.Test.YtiokabhidjafeaaDoorConv
import Derived.Test.YtiokabhidjafeaaDoorShelfP
import Derived.Deep.QuietTactic
import Derived.BigQuiet
import Derived.IntWalk
import Derived.OwnWalk
import Derived.Lib.LastIndexLaws
namespace Go.Proofs.YtiokabhidjafeaaDoor
open Go.RowKit

theorem indexByte_no {c : UInt8} : ∀ {s : List UInt8}, c ∉ s → Lib.indexByte s c = -1
  | [], _ => rfl
  | x :: r, h => by
    have h1 : (x == c) = false := by rw [beq_eq_false_iff_ne]; exact fun e => h (e ▸ List.mem_cons_self)
    have h2 := indexByte_no (s := r) (fun e => h (List.mem_cons_of_mem _ e))
    simp [Lib.indexByte, h1, h2]
theorem indexByte_yes {c : UInt8} (b : List UInt8) : ∀ {a : List UInt8}, c ∉ a → Lib.indexByte (a ++ c :: b) c = (a.length : Int)
  | [], _ => by simp [Lib.indexByte]
  | x :: r, h => by
    have h1 : (x == c) = false := by rw [beq_eq_false_iff_ne]; exact fun e => h (e ▸ List.mem_cons_self)
    have h2 := indexByte_yes b (a := r) (fun e => h (List.mem_cons_of_mem _ e))
    rw [List.cons_append, Lib.indexByte, h1, h2, if_neg (by simp), if_neg (by simp), List.length_cons]
    omega
set_option maxHeartbeats 1000000 in
theorem lcut_no (c : UInt8) (s : List UInt8) (w : World) (h : c ∉ s) :
    Calls Tryd.prog 66 #[.string (bs s), .string ⟨#[c]⟩] w fun e w' => e = .returned (.tuple #[.string (bs s), .string ⟨#[]⟩, .bool false]) ∧ w' = w := by
  have hi := fun w => Tryd.stringslite_Index_one (bs s) c w
  rw [bs_list, indexByte_no h] at hi
  have Hi := Lib.hid hi
  clear hi
  go_enter Tryd.func66, Tryd.ntmps66
  go_wp2_with fail
  refine (Hi.out _).mono ?_
  rintro e w1 ⟨rfl, rfl⟩
  go_wp2
  go_ret3
  exact ⟨rfl, rfl⟩
set_option maxHeartbeats 1000000 in
theorem lcut_yes (c : UInt8) (a b : List UInt8) (w : World) (h : c ∉ a) (hl : (a ++ c :: b).length ≤ 1000000) :
    Calls Tryd.prog 66 #[.string (bs (a ++ c :: b)), .string ⟨#[c]⟩] w fun e w' => e = .returned (.tuple #[.string (bs a), .string (bs b), .bool true]) ∧ ∃ n, w' = w.drewN n := by
  have hi := fun w => Tryd.stringslite_Index_one (bs (a ++ c :: b)) c w
  rw [bs_list, indexByte_yes b h] at hi
  have Hi := Lib.hid hi
  clear hi
  have hsz : (bs (a ++ c :: b)).size = a.length + 1 + b.length := by rw [bs_size]; simp; omega
  have h1 := bs_take (a ++ c :: b) a.length
  have h2 := bs_drop (a ++ c :: b) (a.length + 1)
  rw [List.take_left] at h1
  have h3 : (a ++ c :: b).drop (a.length + 1) = b := by simp
  rw [h3] at h2
  have hl2 : a.length + 1 + b.length ≤ 1000000 := by simp at hl; omega
  clear h3 hl
  rw [hsz] at h2
  have H1 := Lib.hid h1
  have H2 := Lib.hid h2
  clear h1 h2
  generalize bs (a ++ c :: b) = s at *
  have h4 : a.length ≤ s.size := by omega
  have h5 : a.length + 1 ≤ s.size := by omega
  have h6 : (s.size : Int) ≤ 1000000 := by omega
  go_enter Tryd.func66, Tryd.ntmps66
  go_wp2_with fail
  refine (Hi.out _).mono ?_
  rintro e w1 ⟨rfl, rfl⟩
  go_wp2_with fail
  go_quiet (fail)
  go_wp2_with fail
  go_ret3
  exact ⟨by rw [H1.out, H2.out]; rfl, _, rfl⟩
/-- Cut at a byte that is not there. -/
theorem cut_no (c : UInt8) (s : List UInt8) (w : World) (h : c ∉ s) :
    Calls Tryd.prog 36 #[.string (bs s), .string ⟨#[c]⟩] w fun e w' => e = .returned (.tuple #[.string (bs s), .string ⟨#[]⟩, .bool false]) ∧ w' = w := by
  go_enter Tryd.func36, Tryd.ntmps36
  go_wp2_with fail
  refine (lcut_no c s _ h).mono ?_
  rintro e w1 ⟨rfl, rfl⟩
  go_wp2_with fail
  go_ret3
  exact ⟨rfl, rfl⟩
/-- Cut at the first place of a byte. -/
theorem cut_yes (c : UInt8) (a b : List UInt8) (w : World) (h : c ∉ a) (hl : (a ++ c :: b).length ≤ 1000000) :
    Calls Tryd.prog 36 #[.string (bs (a ++ c :: b)), .string ⟨#[c]⟩] w fun e w' => e = .returned (.tuple #[.string (bs a), .string (bs b), .bool true]) ∧ Frm (fun _ => False) w w' := by
  have hc := fun w => lcut_yes c a b w h hl
  generalize bs (a ++ c :: b) = s at *
  have Hc := Lib.hid hc
  clear hc hl
  go_enter Tryd.func36, Tryd.ntmps36
  go_wp2_with fail
  refine (Hc.out _).mono ?_
  rintro e w1 ⟨rfl, n, hw⟩
  have f1 : Frm (fun _ => False) w w1 := by rw [hw]; exact (Frm.refl _ _).drewN n
  clear hw
  go_wp2_with fail
  go_ret3
  exact ⟨rfl, f1⟩
/-- A text has a byte nowhere, or a first place of it, or a last one. -/
theorem first_of (c : UInt8) : ∀ s : List UInt8, c ∉ s ∨ ∃ a b, s = a ++ c :: b ∧ c ∉ a
  | [] => .inl (by simp)
  | x :: r => by
    by_cases e : x = c
    · exact .inr ⟨[], r, by simp [e], by simp⟩
    · rcases first_of c r with h | ⟨a, b, rfl, h⟩
      · exact .inl fun hm => (List.mem_cons.1 hm).elim (fun e2 => e e2.symm) h
      · exact .inr ⟨x :: a, b, rfl, fun hm => (List.mem_cons.1 hm).elim (fun e2 => e e2.symm) h⟩
end Go.Proofs.YtiokabhidjafeaaDoor

