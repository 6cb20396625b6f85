/- Plain mathematics of seen paths, and of moves. No program. No condition. -/
import Derived.Test.YtiokabhidjafeaaDoorPathC
import Derived.Test.YtiokabhidjafeaaDoorPrefB
section
namespace Go.Proofs.YtiokabhidjafeaaDoor

/-- What comes before the first tilde. -/
def base (s : List UInt8) : List UInt8 := (cut 126 s).headD []
/-- Is there a tilde? -/
def tild (s : List UInt8) : Bool := decide (1 < (cut 126 s).length)
/-- What is wrong with the parts of a seen path, the first of which is the i-th one. -/
def seenW : Nat → List (List UInt8) → Nat
  | _, [] => 0
  | i, [s] => if chk (base s) ≠ 0 then chk (base s) else if 4 < i then 3 else if tild s = true ∧ splitO s = none then 4 else 0
  | i, s :: t :: l => if chk s ≠ 0 then chk s else if 4 < i then 3 else seenW (i + 1) (t :: l)
/-- The names of a seen path. -/
def seenN : List (List UInt8) → List (List UInt8)
  | [] => []
  | [s] => [base s]
  | s :: t :: l => s :: seenN (t :: l)
/-- The dot of a seen path. -/
def seenD : List (List UInt8) → Option (Nat × Nat)
  | [] => none
  | [s] => if tild s = true then (splitO s).map (·.2) else none
  | _ :: t :: l => seenD (t :: l)
/-- What a text means as a seen path: its names, the dot, if there is one, or what is wrong. -/
def seen (p : List UInt8) : List (List UInt8) × Option (Nat × Nat) × Nat :=
  if 44 < p.length then ([], none, 3)
  else if (cut 47 p).length < 2 ∨ (cut 47 p).headD [] ≠ [] then ([], none, 4)
  else if p = [47] then ([], none, 0)
  else if seenW 1 (cut 47 p).tail ≠ 0 then ([], none, seenW 1 (cut 47 p).tail)
  else (seenN (cut 47 p).tail, seenD (cut 47 p).tail, 0)
/-- Where names move to. -/
def move (l a b : List (List UInt8)) : List (List UInt8) := if a <+: l then b ++ l.drop a.length else l
end Go.Proofs.YtiokabhidjafeaaDoor
end
section
namespace Go.Proofs.YtiokabhidjafeaaDoor
open Go.RowKit

set_option maxRecDepth 100000 in
set_option maxHeartbeats 4000000 in
theorem rconflict_yes (a : List UInt8) (r n : Nat) (w : World) (h : okd a r n) :
    Calls Tryd.prog 30 #[.string (bs a), .agg #[.int .u8 r, .int .u32 n]] w (ConfTo (conf a r n, 0) w) := by
  obtain ⟨ha, hr, hn1, hn2⟩ := h
  have hname := fun w => rcheck_any a w (by have := (chk_ok.1 ha).2.2; omega)
  rw [ha] at hname
  have D1 := Lib.hid (fun w => rdigits_any r w (by omega))
  have D2 := Lib.hid (fun w => rdigits_any n w (by omega))
  have Hname := Lib.hid hname
  have Hb := Lib.hid (conf_bs a r n hr)
  have la : (bs a).size ≤ 8 := (chk_ok.1 ha).2.2
  have l1 : (bs (digs r)).size ≤ 5 := digs_len5 (by omega)
  have l2 : (bs (digs n)).size ≤ 5 := digs_len5 (by omega)
  have ls : (⟨#[126]⟩ : ByteArray).size = 1 := rfl
  have lt : (⟨#[46]⟩ : ByteArray).size = 1 := rfl
  generalize bs a = A at *
  generalize bs (digs r) = E1 at *
  generalize bs (digs n) = E2 at *
  clear hname ha
  have z1 : ¬ 9223372036854775807 < A.size + 1 := by omega
  have z2 : ¬ 9223372036854775807 < A.size + 1 + E1.size := by omega
  have z3 : ¬ 9223372036854775807 < A.size + 1 + E1.size + 1 := by omega
  have z4 : ¬ 9223372036854775807 < A.size + 1 + E1.size + 1 + E2.size := by omega
  have r1 : (r : Int) ≤ 7 := by omega
  have r0 : (0 : Int) ≤ r := by omega
  have n1 : (n : Int) ≤ 65535 := by omega
  have n2 : (1 : Int) ≤ n := by omega
  go_enter Tryd.func30, Tryd.ntmps30
  have hB := Blk.alloc w 84 #[.int .u8 r, .int .u32 n]
  have f0 : Fr w (w.alloc (.cells #[.int .u8 r, .int .u32 n] 84)) := (Frm.refl _ w).alloc _
  go_wp2_with fail
  refine (Hname.out _).mono ?_
  rintro e w1 ⟨rfl, f1⟩
  have hB1 := hB.keep f1 (fun h => h)
  have c0 := hB1.cell 0 rfl
  have c1 := hB1.cell 1 rfl
  have f01 := f0.trans f1
  clear hB hB1 f0 f1
  obtain ⟨g, hg⟩ : ∃ g, w.heap.size = g := ⟨_, rfl⟩
  rw [hg] at c0 c1 ⊢
  clear hg
  go_wp2_with fail
  have hcv : IntKind.u32.wrap (r : Int) = r := IntWalk.u32_in _ (by omega)
  go_region_held3 (fun w' => w'.cell? ⟨g, 0, none⟩ = some (.int .u8 r) ∧ w'.cell? ⟨g, 1, none⟩ = some (.int .u32 n) ∧ Frm (fun _ => False) w w')
    (((try dsimp only); (try go_split_ands); (repeat' apply And.intro) <;> (first
      | assumption
      | exact Frm.drew (by assumption)
      | exact Frm.cellF gg (by assumption)
      | (refine Frm.trans ?_ gg; assumption)
      | go_keep)))
    (first
      | (go_at_call 54; (with_reducible refine Calls.mono (D1.out _) ?_); rintro e ww ⟨rfl, gg⟩)
      | (go_at_call 54; (with_reducible refine Calls.mono (D2.out _) ?_); rintro e ww ⟨rfl, gg⟩))
  rename_i hh
  obtain ⟨_, _, ff⟩ := hh
  clear D1 D2
  go_wp2_with fail
  go_ret2
  exact ⟨by rw [Hb.out]; rfl, ff⟩

set_option maxRecDepth 100000 in
set_option maxHeartbeats 4000000 in
theorem rconflict_no (a : List UInt8) (r n : Nat) (w : World) (hl : a.length ≤ 1000) (h : ¬ okd a r n) :
    Calls Tryd.prog 30 #[.string (bs a), .agg #[.int .u8 r, .int .u32 n]] w (ConfTo ([], 4) w) := by
  have hname := fun w => rcheck_any a w (by omega)
  have hB := Blk.alloc w 84 #[.int .u8 r, .int .u32 n]
  have f0 : Fr w (w.alloc (.cells #[.int .u8 r, .int .u32 n] 84)) := (Frm.refl _ w).alloc _
  by_cases ha : chk a = 0
  · rw [ha] at hname
    have Hname := Lib.hid hname
    have ho : 8 ≤ r ∨ n = 0 ∨ 65535 < n := by
      rcases Nat.lt_or_ge r 8 with h1 | h1
      · rcases Nat.eq_zero_or_pos n with h2 | h2
        · exact .inr (.inl h2)
        · rcases Nat.lt_or_ge 65535 n with h3 | h3
          · exact .inr (.inr h3)
          · exact absurd ⟨ha, by omega, by omega, h3⟩ h
      · exact .inl h1
    clear hname ha h
    generalize bs a = A at *
    by_cases h1 : 8 ≤ r
    · have r1 : (7 : Int) < r := by omega
      clear ho
      go_enter Tryd.func30, Tryd.ntmps30
      go_wp2_with fail
      refine (Hname.out _).mono ?_
      rintro e w1 ⟨rfl, f1⟩
      have hB1 := hB.keep f1 (fun h => h)
      have c0 := hB1.cell 0 rfl
      have c1 := hB1.cell 1 rfl
      have f01 := f0.trans f1
      clear hB hB1 f0 f1
      go_wp2_with fail
      go_ret2
      exact ⟨rfl, f01⟩
    · have r1 : (r : Int) ≤ 7 := by omega
      by_cases h2 : n = 0
      · subst h2
        clear ho
        go_enter Tryd.func30, Tryd.ntmps30
        go_wp2_with fail
        refine (Hname.out _).mono ?_
        rintro e w1 ⟨rfl, f1⟩
        have hB1 := hB.keep f1 (fun h => h)
        have c0 := hB1.cell 0 rfl
        have c1 := hB1.cell 1 rfl
        have f01 := f0.trans f1
        clear hB hB1 f0 f1
        go_wp2_with fail
        go_ret2
        exact ⟨rfl, f01⟩
      · have n0 : (1 : Int) ≤ n := by omega
        have n1 : (65535 : Int) < n := by omega
        clear ho h2
        go_enter Tryd.func30, Tryd.ntmps30
        go_wp2_with fail
        refine (Hname.out _).mono ?_
        rintro e w1 ⟨rfl, f1⟩
        have hB1 := hB.keep f1 (fun h => h)
        have c0 := hB1.cell 0 rfl
        have c1 := hB1.cell 1 rfl
        have f01 := f0.trans f1
        clear hB hB1 f0 f1
        go_wp2_with fail
        go_ret2
        exact ⟨rfl, f01⟩
  · obtain ⟨c, hc⟩ : ∃ c, chk a = c := ⟨_, rfl⟩
    rw [hc] at hname ha
    have q : ((c : Int) != 0) = true := by rw [bne_iff_ne]; omega
    have Hname := Lib.hid hname
    clear hname ha h hc
    generalize bs a = A at *
    go_enter Tryd.func30, Tryd.ntmps30
    go_wp2_with fail
    refine (Hname.out _).mono ?_
    rintro e w1 ⟨rfl, f1⟩
    have f01 := f0.trans f1
    clear hB f0 f1
    go_wp2_with fail
    go_ret2
    exact ⟨rfl, f01⟩
theorem rconflict_any (a : List UInt8) (r n : Nat) (w : World) (hl : a.length ≤ 1000) :
    Calls Tryd.prog 30 #[.string (bs a), .agg #[.int .u8 r, .int .u32 n]] w (ConfTo (conflict a r n) w) := by
  by_cases h : okd a r n
  · rw [conflict_good h]; exact rconflict_yes a r n w h
  · have e : conflict a r n = ([], 4) := by
      have h1 := fun e => h (conflict_ok.1 e)
      unfold conflict at h1 ⊢
      split at h1
      · rename_i h2; rw [if_pos h2]
      · exact absurd rfl h1
    rw [e]; exact rconflict_no a r n w hl h

end Go.Proofs.YtiokabhidjafeaaDoor
end
