/- What path.Conflict, path.dot and path.Split answer. Conditions: the tables and errors of strconv lie as the program's text lays them (Vars). -/
import Derived.Test.YtiokabhidjafeaaDoorNames
import Derived.Deep.RegionHeld3
import Derived.Deep.QuietTactic
import Derived.BigQuiet
import Derived.IntWalk
import Derived.RegionTactic
namespace Go.Proofs.YtiokabhidjafeaaDoor
open Go.RowKit

theorem conf_bs (a : List UInt8) (r n : Nat) (hr : r ≤ 7) : bs a ++ (⟨#[126]⟩ : ByteArray) ++ bs (digs r) ++ (⟨#[46]⟩ : ByteArray) ++ bs (digs n) = bs (conf a r n) := by
  have e1 : (⟨#[126]⟩ : ByteArray) = bs [126] := rfl
  have e2 : (⟨#[46]⟩ : ByteArray) = bs [46] := rfl
  rw [e1, e2, bs_append, bs_append, bs_append, bs_append, digs_small (by omega)]
  unfold conf
  congr 1
  simp
/-- Conflict's answer. -/
def ConfTo (X : List UInt8 × Nat) (w : World) (e : Ending) (w' : World) : Prop := e = .returned (.tuple #[.string (bs X.1), .int .i64 X.2]) ∧ Fr w w'

set_option maxRecDepth 100000 in
set_option maxHeartbeats 4000000 in
theorem conflict_yes (a : List UInt8) (r n : Nat) (w : World) (hv : VarT w) (h : okd a r n) :
    Calls Tryd.prog 38 #[.string (bs a), .agg #[.int .u8 r, .int .u32 n]] w (ConfTo (conf a r n, 0) w) := by
  obtain ⟨ha, hr, hn1, hn2⟩ := h
  have hname := fun w => name_any a w
  have hd : decide (chk a = 0) = true := by simpa using ha
  rw [hd] at hname
  have D1 := Lib.hid (fun w (hv : VarT w) => digits_any r w hv (by omega))
  have D2 := Lib.hid (fun w (hv : VarT w) => digits_any n w hv (by omega))
  have Hname := Lib.hid hname
  have Hb := Lib.hid (conf_bs a r n hr)
  have la : (bs a).size ≤ 8 := (chk_ok.1 ha).2.2
  have l1 : (bs (digs r)).size ≤ 5 := digs_len5 (by omega)
  have l2 : (bs (digs n)).size ≤ 5 := digs_len5 (by omega)
  have ls : (⟨#[126]⟩ : ByteArray).size = 1 := rfl
  have lt : (⟨#[46]⟩ : ByteArray).size = 1 := rfl
  generalize bs a = A at *
  generalize bs (digs r) = E1 at *
  generalize bs (digs n) = E2 at *
  clear hname hd ha
  have z1 : ¬ 9223372036854775807 < A.size + 1 := by omega
  have z2 : ¬ 9223372036854775807 < A.size + 1 + E1.size := by omega
  have z3 : ¬ 9223372036854775807 < A.size + 1 + E1.size + 1 := by omega
  have z4 : ¬ 9223372036854775807 < A.size + 1 + E1.size + 1 + E2.size := by omega
  have r1 : (r : Int) < 8 := by omega
  have r0 : (0 : Int) ≤ r := by omega
  have n0 : ((n : Int) == 0) = false := by simp; omega
  have n1 : (n : Int) ≤ 65535 := by omega
  have n2 : (1 : Int) ≤ n := by omega
  go_enter Tryd.func38, Tryd.ntmps38
  have hB := Blk.alloc w 61 #[.int .u8 r, .int .u32 n]
  have f0 : Fr w (w.alloc (.cells #[.int .u8 r, .int .u32 n] 61)) := (Frm.refl _ w).alloc _
  go_wp2_with fail
  refine (Hname.out _).mono ?_
  rintro e w1 ⟨rfl, f1⟩
  have hB1 := hB.keep f1 (fun h => h)
  have c0 := hB1.cell 0 rfl
  have c1 := hB1.cell 1 rfl
  have f01 := f0.trans f1
  have hv1 := hv.keep f01
  clear hB hB1 f0 f1
  obtain ⟨g, hg⟩ : ∃ g, w.heap.size = g := ⟨_, rfl⟩
  rw [hg] at c0 c1 ⊢
  clear hg
  go_wp2_with fail
  have hvd : VarT w1.drew := hv1.keep ((Frm.refl _ w1).drew)
  have hcv : IntKind.u32.wrap (r : Int) = r := IntWalk.u32_in _ (by omega)
  go_region_held3 (fun w' => w'.cell? ⟨g, 0, none⟩ = some (.int .u8 r) ∧ w'.cell? ⟨g, 1, none⟩ = some (.int .u32 n) ∧ VarT w' ∧ Frm (fun _ => False) w w')
    (((try dsimp only); (try go_split_ands); (repeat' apply And.intro) <;> (first
      | assumption
      | exact Frm.drew (by assumption)
      | exact Frm.cellF gg (by assumption)
      | exact VarT.keep (by assumption) gg
      | (refine VarT.keep (by assumption) ((Frm.refl _ _).drew))
      | (refine Frm.trans ?_ gg; assumption)
      | go_keep)))
    (first
      | (go_at_call 68; (with_reducible refine Calls.mono (D1.out _ ?_) ?_); (any_goals (first | exact hvd | exact hvd.keep (by assumption) | exact (show (_ ∧ _ ∧ _ ∧ _) by assumption).2.2.1)); rintro e ww ⟨rfl, gg⟩)
      | (go_at_call 68; (with_reducible refine Calls.mono (D2.out _ ?_) ?_); (any_goals (first | exact hvd | exact hvd.keep (by assumption) | exact (show (_ ∧ _ ∧ _ ∧ _) by assumption).2.2.1)); rintro e ww ⟨rfl, gg⟩))
  rename_i hh
  obtain ⟨_, _, _, ff⟩ := hh
  clear D1 D2
  go_wp2_with fail
  go_ret2
  exact ⟨by rw [Hb.out]; rfl, ff⟩

set_option maxRecDepth 100000 in
set_option maxHeartbeats 4000000 in
theorem conflict_no (a : List UInt8) (r n : Nat) (w : World) (h : ¬ okd a r n) :
    Calls Tryd.prog 38 #[.string (bs a), .agg #[.int .u8 r, .int .u32 n]] w (ConfTo ([], 4) w) := by
  have hname := fun w => name_any a w
  have hB := Blk.alloc w 61 #[.int .u8 r, .int .u32 n]
  have f0 : Fr w (w.alloc (.cells #[.int .u8 r, .int .u32 n] 61)) := (Frm.refl _ w).alloc _
  by_cases ha : chk a = 0
  · have hd : decide (chk a = 0) = true := by simpa using ha
    rw [hd] at hname
    have Hname := Lib.hid hname
    have ho : 8 ≤ r ∨ n = 0 ∨ 65535 < n := by
      rcases Nat.lt_or_ge r 8 with h1 | h1
      · rcases Nat.eq_zero_or_pos n with h2 | h2
        · exact .inr (.inl h2)
        · rcases Nat.lt_or_ge 65535 n with h3 | h3
          · exact .inr (.inr h3)
          · exact absurd ⟨ha, by omega, by omega, h3⟩ h
      · exact .inl h1
    clear hname hd ha h
    generalize bs a = A at *
    by_cases h1 : 8 ≤ r
    · have r1 : (8 : Int) ≤ r := by omega
      clear ho
      go_enter Tryd.func38, Tryd.ntmps38
      go_wp2_with fail
      refine (Hname.out _).mono ?_
      rintro e w1 ⟨rfl, f1⟩
      have hB1 := hB.keep f1 (fun h => h)
      have c0 := hB1.cell 0 rfl
      have c1 := hB1.cell 1 rfl
      have f01 := f0.trans f1
      clear hB hB1 f0 f1
      go_wp2_with fail
      go_ret2
      exact ⟨rfl, f01⟩
    · have r1 : (r : Int) < 8 := by omega
      by_cases h2 : n = 0
      · subst h2
        clear ho
        go_enter Tryd.func38, Tryd.ntmps38
        go_wp2_with fail
        refine (Hname.out _).mono ?_
        rintro e w1 ⟨rfl, f1⟩
        have hB1 := hB.keep f1 (fun h => h)
        have c0 := hB1.cell 0 rfl
        have c1 := hB1.cell 1 rfl
        have f01 := f0.trans f1
        clear hB hB1 f0 f1
        go_wp2_with fail
        go_ret2
        exact ⟨rfl, f01⟩
      · have n0 : ((n : Int) == 0) = false := by simp; omega
        have n1 : (65535 : Int) < n := by omega
        clear ho h2
        go_enter Tryd.func38, Tryd.ntmps38
        go_wp2_with fail
        refine (Hname.out _).mono ?_
        rintro e w1 ⟨rfl, f1⟩
        have hB1 := hB.keep f1 (fun h => h)
        have c0 := hB1.cell 0 rfl
        have c1 := hB1.cell 1 rfl
        have f01 := f0.trans f1
        clear hB hB1 f0 f1
        go_wp2_with fail
        go_ret2
        exact ⟨rfl, f01⟩
  · have hd : decide (chk a = 0) = false := by simpa using ha
    rw [hd] at hname
    have Hname := Lib.hid hname
    clear hname hd ha h
    generalize bs a = A at *
    go_enter Tryd.func38, Tryd.ntmps38
    go_wp2_with fail
    refine (Hname.out _).mono ?_
    rintro e w1 ⟨rfl, f1⟩
    have f01 := f0.trans f1
    clear hB f0 f1
    go_wp2_with fail
    go_ret2
    exact ⟨rfl, f01⟩
theorem conflictT_any (a : List UInt8) (r n : Nat) (w : World) (hv : VarT w) :
    Calls Tryd.prog 38 #[.string (bs a), .agg #[.int .u8 r, .int .u32 n]] w (ConfTo (conflict a r n) w) := by
  by_cases h : okd a r n
  · rw [conflict_good h]; exact conflict_yes a r n w hv h
  · have e : conflict a r n = ([], 4) := by
      have h1 := fun e => h (conflict_ok.1 e)
      unfold conflict at h1 ⊢
      split
      · rfl
      · rename_i h2; rw [if_neg h2] at h1; exact absurd rfl h1
    rw [e]
    exact conflict_no a r n w h

theorem conflict_any (a : List UInt8) (r n : Nat) (w : World) (hv : Vars w) :
    Calls Tryd.prog 38 #[.string (bs a), .agg #[.int .u8 r, .int .u32 n]] w (ConfTo (conflict a r n) w) := conflictT_any a r n w hv.toVarT
/-- A dot, as a value. -/
def dotV (r n : Nat) : Value := .agg #[.int .u8 r, .int .u32 n]
/-- dot's answer: some dot, and the one whose digits stand there. -/
def DotTo (t : List UInt8) (w : World) (e : Ending) (w' : World) : Prop :=
  ∃ r n : Nat, e = .returned (.agg #[.int .u8 r, .int .u32 n]) ∧ (∀ r' n', r' ≤ 7 → n' ≤ 65535 → t = dig r' :: 46 :: digs n' → r = r' ∧ n = n') ∧ Fr w w'
theorem cut_uniq {c : UInt8} {a b x y : List UInt8} (ha : c ∉ a) (hx : c ∉ x) (e : a ++ c :: b = x ++ c :: y) : a = x ∧ b = y := by
  have h1 := cut_app b ha
  rw [e, cut_app y hx] at h1
  have h2 := (List.cons.inj h1).1
  subst h2
  exact ⟨rfl, by simpa using e⟩
set_option maxRecDepth 100000 in
set_option maxHeartbeats 4000000 in
theorem dot_of (t x y : List UInt8) (f : Bool) (w : World) (hv : Vars w) (hx : x.length ≤ 1000) (hy : y.length ≤ 1000)
    (hc : ∀ w, Calls Tryd.prog 36 #[.string (bs t), .string ⟨#[46]⟩] w fun e w' => e = .returned (.tuple #[.string (bs x), .string (bs y), .bool f]) ∧ Fr w w')
    (ht : ∀ r' n', r' ≤ 7 → n' ≤ 65535 → t = dig r' :: 46 :: digs n' → x = digs r' ∧ y = digs n') :
    Calls Tryd.prog 37 #[.string (bs t)] w (DotTo t w) := by
  have N8 := Lib.hid (fun w (hv : Vars w) => num8_any x w hv (by omega))
  have N32 := Lib.hid (fun w (hv : Vars w) => num32_any y w hv (by omega))
  have Hc := Lib.hid hc
  have Ht := Lib.hid ht
  clear hc ht
  generalize bs t = T at *
  generalize bs x = X at *
  generalize bs y = Y at *
  go_enter Tryd.func37, Tryd.ntmps37
  go_wp2_with fail
  refine (Hc.out _).mono ?_
  rintro e w1 ⟨rfl, f1⟩
  have f0 : Fr w (w.alloc (.cells #[.int .u8 0, .int .u32 0] 61)) := (Frm.refl _ w).alloc _
  have hB := (Blk.alloc w 61 #[.int .u8 0, .int .u32 0]).keep f1 (fun h => h)
  have g1 := f0.trans f1
  go_wp2_with fail
  refine (N8.out _ (hv.keep g1)).mono ?_
  rintro e w2 ⟨u, ex, rfl, hu, hur, f2⟩
  have hB2 := hB.keep f2 (fun h => h)
  have g2 := g1.trans f2
  go_wp2_with fail
  refine (N32.out _ (hv.keep g2)).mono ?_
  rintro e w3 ⟨v, ey, rfl, hv2, hvr, f3⟩
  have hB3 := hB2.keep f3 (fun h => h)
  have g3 := g2.trans f3
  have Hur := Lib.hid hur
  have Hvr := Lib.hid hvr
  have c0 := hB3.cell 0 rfl
  have c1 := hB3.cell 1 rfl
  have r0 := hB3.free 0
  have r1 := hB3.free 1
  have e1 : IntKind.u8.wrap (u : Int) = u := IntWalk.u8_in _ (by omega)
  have e2 : IntKind.u32.wrap (v : Int) = v := IntWalk.u32_in _ (by omega)
  clear hur hvr hB hB2 f0 f1 f2 f3 g1 g2
  go_wp2_with fail
  have hS := (hB3.set 0 (.int .u8 u)).set 1 (.int .u32 v)
  have d0 := hS.cell 0 rfl
  have d1 := hS.cell 1 rfl
  have ff : Fr w ((w3.setCell ⟨w.heap.size, 0, none⟩ (.int .u8 u)).setCell ⟨w.heap.size, 1, none⟩ (.int .u32 v)) := (g3.setCell (p := ⟨w.heap.size, 0, none⟩) (fun h => absurd h (by simp)) _).setCell (p := ⟨w.heap.size, 1, none⟩) (fun h => absurd h (by simp)) _
  exact bodyPost_ret (v := .agg #[.int .u8 u, .int .u32 v]) (by simp [results, Tryd.results37, go_sem, d0, d1]) rfl ⟨u, v, rfl, fun r' n' h1 h2 h3 => ⟨Hur.out _ h1 (Ht.out _ _ h1 h2 h3).1, Hvr.out _ h2 (Ht.out _ _ h1 h2 h3).2⟩, ff⟩
theorem dig_digs {r : Nat} (h : r ≤ 7) : digs r = [dig r] := digs_small (by omega)
theorem dot_any (t : List UInt8) (w : World) (hv : Vars w) (hl : t.length ≤ 1000) : Calls Tryd.prog 37 #[.string (bs t)] w (DotTo t w) := by
  rcases first_of 46 t with h | ⟨a, b, rfl, h⟩
  · refine dot_of t t [] false w hv hl (by simp) (fun w => (cut_no 46 t w h).mono fun e w' ⟨h1, h2⟩ => ⟨h1, by rw [h2]; exact Frm.refl _ _⟩) fun r' n' h1 h2 h3 => ?_
    exact absurd (by rw [h3]; simp) h
  · refine dot_of _ a b true w hv (by simp at hl; omega) (by simp at hl; omega) (fun w => cut_yes 46 a b w h (by omega)) fun r' n' h1 h2 h3 => ?_
    have h4 : (46 : UInt8) ∉ [dig r'] := by
      intro hm
      have e : (46 : UInt8) = dig r' := by simpa using hm
      exact isd_ne (isd_dig (by omega)) (by decide) e.symm
    have := cut_uniq (c := 46) (x := [dig r']) (y := digs n') h h4 h3
    rw [dig_digs h1]
    exact this

/-- Split's answer. -/
def splitV (s : List UInt8) : Value :=
  match splitO s with
  | some (a, r, n) => .tuple #[.string (bs a), dotV r n, .bool true]
  | none => .tuple #[.string (bs s), dotV 0 0, .bool false]
def SplitTo (s : List UInt8) (w : World) (e : Ending) (w' : World) : Prop := e = .returned (splitV s) ∧ Fr w w'
theorem str_eq (a b : List UInt8) : ((bs a).toList == (bs b).toList) = decide (a = b) := by
  rw [bs_toList, bs_toList]
  by_cases h : a = b
  · subst h; simp
  · rw [decide_eq_false h]; simpa using h
set_option maxRecDepth 100000 in
set_option maxHeartbeats 4000000 in
theorem split_of (s nm tl : List UInt8) (f : Bool) (w : World) (hv : Vars w) (hl : tl.length ≤ 1000)
    (hc : ∀ w, Calls Tryd.prog 36 #[.string (bs s), .string ⟨#[126]⟩] w fun e w' => e = .returned (.tuple #[.string (bs nm), .string (bs tl), .bool f]) ∧ Fr w w')
    (ht : ∀ a r n, okd a r n → conf a r n = s → nm = a ∧ tl = dig r :: 46 :: digs n) :
    Calls Tryd.prog 19 #[.string (bs s)] w (SplitTo s w) := by
  have HD := Lib.hid (fun w (hv : Vars w) => dot_any tl w hv hl)
  have HC := Lib.hid (fun r n w (hv : Vars w) => conflict_any nm r n w hv)
  have Hc := Lib.hid hc
  have Ht := Lib.hid ht
  clear hc ht
  have HN : Hid (bs nm = bs nm) := Lib.hid rfl
  go_enter Tryd.func19, Tryd.ntmps19
  go_wp2_with fail
  refine (Hc.out _).mono ?_
  rintro e w1 ⟨rfl, f1⟩
  have f0 : Fr w (w.alloc (.cells #[.int .u8 0, .int .u32 0] 61)) := (Frm.refl _ w).alloc _
  have hB := (Blk.alloc w 61 #[.int .u8 0, .int .u32 0]).keep f1 (fun h => h)
  have g1 := f0.trans f1
  go_wp2_with fail
  refine (HD.out _ (hv.keep g1)).mono ?_
  rintro e w2 ⟨r, n, rfl, hrn, f2⟩
  have hB2 := hB.keep f2 (fun h => h)
  have g2 := g1.trans f2
  have c0 := hB2.cell 0 rfl
  have c1 := hB2.cell 1 rfl
  have r0 := hB2.free 0
  have r1 := hB2.free 1
  have Hrn := Lib.hid hrn
  clear hrn hB g1 f1
  have hB3 := (hB2.set 0 (.int .u8 r)).set 1 (.int .u32 n)
  have g3 : Fr w ((w2.setCell ⟨w.heap.size, 0, none⟩ (.int .u8 r)).setCell ⟨w.heap.size, 1, none⟩ (.int .u32 n)) := (g2.setCell (p := ⟨w.heap.size, 0, none⟩) (fun h => absurd h (by simp)) _).setCell (p := ⟨w.heap.size, 1, none⟩) (fun h => absurd h (by simp)) _
  have e0 := hB3.cell 0 rfl
  have e1 := hB3.cell 1 rfl
  have G3 := Lib.hid g3
  have HB3 := Lib.hid hB3
  clear g3 hB3 hB2 f2 g2
  go_wp2_with fail
  have hv3 := hv.keep G3.out
  have hno : ¬ (okd nm r n ∧ conf nm r n = s) → splitO s = none := fun hne => by
    cases hsp : splitO s with
    | none => rfl
    | some x =>
      obtain ⟨a, r', n'⟩ := x
      obtain ⟨h1, h2⟩ := splitO_ok hsp
      obtain ⟨h3, h4⟩ := Ht.out a r' n' h1 h2
      obtain ⟨h5, h6⟩ := Hrn.out r' n' h1.2.1 h1.2.2.2 h4
      subst h3 h5 h6
      exact absurd ⟨h1, h2⟩ hne
  have HB := HB3.out
  have GG := G3.out
  generalize ((w2.setCell ⟨w.heap.size, 0, none⟩ (.int .u8 r)).setCell ⟨w.heap.size, 1, none⟩ (.int .u32 n)) = w3 at *
  clear c0 c1 r0 r1 e0 e1 HB3 G3
  have hgs := GG.size
  by_cases hk : okd nm r n
  · have hC := HC.out r n w3 hv3
    rw [conflict_good hk] at hC
    by_cases hs : conf nm r n = s
    · have hsp : splitV s = .tuple #[.string (bs nm), dotV r n, .bool true] := by
        unfold splitV
        rw [splitO_iff.2 ⟨hk, hs⟩]
      have Hsp := Lib.hid hsp
      rw [hs] at hC
      have HCC := Lib.hid hC
      clear hsp hC hno hs hk HC
      have q1 : ((bs s).toList == (bs s).toList) = true := by rw [str_eq]; simp
      refine HCC.out.mono ?_
      rintro e w4 ⟨rfl, f4⟩
      have hB4 := HB.keep f4 (fun h => h)
      have c0 := hB4.cell 0 rfl
      have c1 := hB4.cell 1 rfl
      have r0 := hB4.free 0
      have r1 := hB4.free 1
      go_wp2_with fail
      go_region
      have hS := (hB4.set 0 (.int .u8 r)).set 1 (.int .u32 n)
      have d0 := (hS.drew).cell 0 rfl
      have d1 := (hS.drew).cell 1 rfl
      have ff : Fr w ((w4.setCell ⟨w.heap.size, 0, none⟩ (.int .u8 r)).setCell ⟨w.heap.size, 1, none⟩ (.int .u32 n)).drew := (((GG.trans f4).setCell (p := ⟨w.heap.size, 0, none⟩) (fun h => absurd h (by simp)) _).setCell (p := ⟨w.heap.size, 1, none⟩) (fun h => absurd h (by simp)) _).drew
      all_goals
        go_wp2_with fail
        exact bodyPost_ret (v := .tuple #[.string (bs nm), .agg #[.int .u8 r, .int .u32 n], .bool true]) (by simp [results, Tryd.results19, go_sem, d0, d1]) rfl ⟨by rw [Hsp.out]; rfl, ff⟩
    · have hsp : splitV s = .tuple #[.string (bs s), dotV 0 0, .bool false] := by
        unfold splitV
        rw [hno (fun e => hs e.2)]
      have q1 : ((bs (conf nm r n)).toList == (bs s).toList) = false := by rw [str_eq]; exact decide_eq_false hs
      have Hsp := Lib.hid hsp
      have HCC := Lib.hid hC
      clear hsp hC hno hs hk HC
      refine HCC.out.mono ?_
      rintro e w4 ⟨rfl, f4⟩
      have hB4 := HB.keep f4 (fun h => h)
      have c0 := hB4.cell 0 rfl
      have c1 := hB4.cell 1 rfl
      have r0 := hB4.free 0
      have r1 := hB4.free 1
      have hS := (hB4.set 0 (.int .u8 0)).set 1 (.int .u32 0)
      have d0 := hS.cell 0 rfl
      have d1 := hS.cell 1 rfl
      have ff : Fr w ((w4.setCell ⟨w.heap.size, 0, none⟩ (.int .u8 0)).setCell ⟨w.heap.size, 1, none⟩ (.int .u32 0)) := ((GG.trans f4).setCell (p := ⟨w.heap.size, 0, none⟩) (fun h => absurd h (by simp)) _).setCell (p := ⟨w.heap.size, 1, none⟩) (fun h => absurd h (by simp)) _
      go_wp2_with fail
      exact bodyPost_ret (v := .tuple #[.string (bs s), .agg #[.int .u8 0, .int .u32 0], .bool false]) (by simp [results, Tryd.results19, go_sem, d0, d1]) rfl ⟨by rw [Hsp.out]; rfl, ff⟩
  · have hsp : splitV s = .tuple #[.string (bs s), dotV 0 0, .bool false] := by
      unfold splitV
      rw [hno (fun e => hk e.1)]
    have hC := conflict_no nm r n w3 hk
    have Hsp := Lib.hid hsp
    have HCC := Lib.hid hC
    clear hsp hC hno hk HC
    refine HCC.out.mono ?_
    rintro e w4 ⟨rfl, f4⟩
    have hB4 := HB.keep f4 (fun h => h)
    have c0 := hB4.cell 0 rfl
    have c1 := hB4.cell 1 rfl
    have r0 := hB4.free 0
    have r1 := hB4.free 1
    have hS := (hB4.set 0 (.int .u8 0)).set 1 (.int .u32 0)
    have d0 := hS.cell 0 rfl
    have d1 := hS.cell 1 rfl
    have ff : Fr w ((w4.setCell ⟨w.heap.size, 0, none⟩ (.int .u8 0)).setCell ⟨w.heap.size, 1, none⟩ (.int .u32 0)) := ((GG.trans f4).setCell (p := ⟨w.heap.size, 0, none⟩) (fun h => absurd h (by simp)) _).setCell (p := ⟨w.heap.size, 1, none⟩) (fun h => absurd h (by simp)) _
    go_wp2_with fail
    exact bodyPost_ret (v := .tuple #[.string (bs s), .agg #[.int .u8 0, .int .u32 0], .bool false]) (by simp [results, Tryd.results19, go_sem, d0, d1]) rfl ⟨by rw [Hsp.out]; rfl, ff⟩
theorem split_any (s : List UInt8) (w : World) (hv : Vars w) (hl : s.length ≤ 1000) : Calls Tryd.prog 19 #[.string (bs s)] w (SplitTo s w) := by
  rcases first_of 126 s with h | ⟨a, b, rfl, h⟩
  · refine split_of s s [] false w hv (by simp) (fun w => (cut_no 126 s w h).mono fun e w' ⟨h1, h2⟩ => ⟨h1, by rw [h2]; exact Frm.refl _ _⟩) fun a r n h1 h2 => ?_
    exact absurd (by rw [← h2]; simp [conf]) h
  · refine split_of _ a b true w hv (by simp at hl; omega) (fun w => cut_yes 126 a b w h (by omega)) fun x r n h1 h2 => ?_
    exact cut_uniq h (chk_not h1.1 okc_tilde) h2.symm
end Go.Proofs.YtiokabhidjafeaaDoor

