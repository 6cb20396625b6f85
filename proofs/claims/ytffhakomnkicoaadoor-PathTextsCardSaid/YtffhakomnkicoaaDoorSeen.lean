/- What path.Seen answers. Conditions: the tables and errors of strconv lie as the program's text lays them (Vars). -/
import Derived.Test.YtffhakomnkicoaaDoorConf
import Derived.Test.YtffhakomnkicoaaDoorPathE
namespace Go.Proofs.YtffhakomnkicoaaDoor
open Go.RowKit

theorem cut_snoc {c : UInt8} {b : List UInt8} (h : c ∉ b) : ∀ a, cut c (a ++ c :: b) = cut c a ++ [b]
  | [] => by
    have e : cut c (c :: b) = [] :: cut c b := by rw [cut, if_pos rfl]
    rw [List.nil_append, e, cut_free h]
    rfl
  | x :: a => by
    obtain ⟨s, t, e⟩ := cut_cons c a
    have ih := cut_snoc h a
    rw [List.cons_append, cut, cut, ih, e]
    by_cases hx : x = c
    · rw [if_pos hx, if_pos hx]; rfl
    · rw [if_neg hx, if_neg hx]; rfl
/-- The names ahead of the last part. -/
def ahd (a : List UInt8) : List (List UInt8) := (cut 47 a).tail
theorem nams_snoc {a x : List UInt8} (h : (47 : UInt8) ∉ x) : nams (a ++ 47 :: x) = if (cut 47 a).headD [] ≠ [] then ([], 4) else if a = [] ∧ x = [] then ([], 0) else if fwalk 0 (ahd a ++ [x]) ≠ 0 then ([], fwalk 0 (ahd a ++ [x])) else (ahd a ++ [x], 0) := by
  cases a with
  | nil =>
    have e : nams ([] ++ 47 :: x) = if fwalk 0 (pcs x) ≠ 0 then ([], fwalk 0 (pcs x)) else (pcs x, 0) := rfl
    rw [e]
    have e2 : ahd [] = [] := rfl
    have k0 : ¬ ((cut 47 ([] : List UInt8)).headD [] ≠ []) := fun h => h rfl
    rw [e2, if_neg k0]
    by_cases hx : x = []
    · subst hx; rfl
    · have k2 : ¬ (([] : List UInt8) = [] ∧ x = []) := fun e => hx e.2
      have e3 : pcs x = [] ++ [x] := by unfold pcs; rw [if_neg hx, cut_free h]; rfl
      rw [if_neg k2, e3]
  | cons c r =>
    have e : nams ((c :: r) ++ 47 :: x) = if c = 47 then (if fwalk 0 (pcs (r ++ 47 :: x)) ≠ 0 then ([], fwalk 0 (pcs (r ++ 47 :: x))) else (pcs (r ++ 47 :: x), 0)) else ([], 4) := rfl
    have k3 : ¬ (c :: r = [] ∧ x = []) := fun e => by cases e.1
    rw [e, if_neg k3]
    by_cases hc : c = 47
    · subst hc
      have e3 : cut 47 (47 :: r) = [] :: cut 47 r := by rw [cut, if_pos rfl]
      have e2 : ahd (47 :: r) = cut 47 r := by unfold ahd; rw [e3]; rfl
      have e4 : pcs (r ++ 47 :: x) = cut 47 r ++ [x] := by unfold pcs; rw [if_neg (by simp), cut_snoc h]
      have k4 : ¬ (([] :: cut 47 r).headD [] ≠ []) := fun h => h rfl
      have k5 : (47 : UInt8) = 47 := rfl
      rw [if_pos k5, e2, e3, e4, if_neg k4]
    · have e3 : cut 47 (c :: r) = (c :: (cut 47 r).headD []) :: (cut 47 r).tail := by rw [cut, if_neg hc]
      have k6 : ((c :: (cut 47 r).headD []) :: (cut 47 r).tail).headD [] ≠ [] := fun h => by cases h
      rw [if_neg hc, e3, if_pos k6]
theorem seenW_snoc (b : List UInt8) : ∀ (T : List (List UInt8)) (i : Nat), seenW (i + 1) (T ++ [b]) = if fwalk i (T ++ [base b]) ≠ 0 then fwalk i (T ++ [base b]) else if tild b = true ∧ splitO b = none then 4 else 0
  | [], i => by
    rw [List.nil_append, List.nil_append, seenW, fwalk, fwalk]
    unfold flt
    by_cases h : chk (base b) = 0
    · have e1 : ∀ (p q : Nat), (if chk (base b) ≠ 0 then p else q) = q := fun p q => if_neg (fun e => e h)
      rw [e1, e1]
      by_cases h4 : 4 ≤ i
      · rw [if_pos (by omega : 4 < i + 1), if_pos h4]; rfl
      · rw [if_neg (by omega : ¬ 4 < i + 1), if_neg h4]; rfl
    · have e1 : ∀ (p q : Nat), (if chk (base b) ≠ 0 then p else q) = p := fun p q => if_pos h
      rw [e1, e1, if_pos (by rw [if_pos h]; exact h), if_pos h]
  | s :: T, i => by
    have ih := seenW_snoc b T (i + 1)
    have e0 : seenW (i + 1) (s :: T ++ [b]) = if chk s ≠ 0 then chk s else if 4 < i + 1 then 3 else seenW (i + 1 + 1) (T ++ [b]) := by
      cases T with
      | nil => rfl
      | cons t T => rfl
    rw [e0, ih, List.cons_append, fwalk]
    unfold flt
    by_cases h : chk s = 0
    · have e1 : ∀ (p q : Nat), (if chk s ≠ 0 then p else q) = q := fun p q => if_neg (fun e => e h)
      rw [e1, e1]
      by_cases h4 : 4 ≤ i
      · rw [if_pos (by omega : 4 < i + 1), if_pos h4]; rfl
      · rw [if_neg (by omega : ¬ 4 < i + 1), if_neg h4]; rfl
    · have e1 : ∀ (p q : Nat), (if chk s ≠ 0 then p else q) = p := fun p q => if_pos h
      rw [e1, e1, if_pos h, if_pos h]
theorem seenN_snoc (b : List UInt8) : ∀ T : List (List UInt8), seenN (T ++ [b]) = T ++ [base b]
  | [] => rfl
  | [_] => rfl
  | s :: t :: T => congrArg (s :: ·) (seenN_snoc b (t :: T))
theorem seenD_snoc (b : List UInt8) : ∀ T : List (List UInt8), seenD (T ++ [b]) = if tild b = true then (splitO b).map (·.2) else none
  | [] => rfl
  | [_] => rfl
  | _ :: t :: T => seenD_snoc b (t :: T)
theorem base_part (b : List UInt8) : (126 ∉ b ∧ base b = b ∧ tild b = false) ∨ ∃ y, b = base b ++ 126 :: y ∧ 126 ∉ base b ∧ tild b = true := by
  rcases first_of 126 b with h | ⟨x, y, e, h⟩
  · exact .inl ⟨h, base_free h, tild_free h⟩
  · have hc := cut_app (c := 126) y h
    rw [← e] at hc
    have h1 : base b = x := by unfold base; rw [hc]; rfl
    have h2 : tild b = true := by
      unfold tild
      obtain ⟨s, t, e2⟩ := cut_cons 126 y
      rw [hc, e2]
      simp
    exact .inr ⟨y, by rw [h1]; exact e, by rw [h1]; exact h, h2⟩
theorem base_slash {b : List UInt8} (h : (47 : UInt8) ∉ b) : (47 : UInt8) ∉ base b := by
  rcases base_part b with ⟨_, e, _⟩ | ⟨y, e, _, _⟩
  · rw [e]; exact h
  · intro hm; rw [e] at h; exact h (List.mem_append_left _ hm)
theorem split_base {b : List UInt8} (h : base b = []) : splitO b = none := by
  cases hs : splitO b with
  | none => rfl
  | some x =>
    obtain ⟨a, r, n⟩ := x
    obtain ⟨h1, h2⟩ := splitO_ok hs
    rw [← h2, base_conf h1] at h
    exact absurd h (chk_ok.1 h1.1).1
/-- What a text means as a seen path, of which b is the last part. -/
def seenP (pre b : List UInt8) : List (List UInt8) × Option (Nat × Nat) × Nat :=
  if (nams (pre ++ base b)).2 ≠ 0 then ([], none, (nams (pre ++ base b)).2)
  else if tild b = false then ((nams (pre ++ base b)).1, none, 0)
  else match splitO b with
    | some (_, r, n) => ((nams (pre ++ base b)).1, some (r, n), 0)
    | none => ([], none, 4)
theorem seen_no {p : List UInt8} (h : (47 : UInt8) ∉ p) : seen p = if 44 < p.length then ([], none, 3) else seenP [] p := by
  unfold seen
  by_cases hl : 44 < p.length
  · rw [if_pos hl, if_pos hl]
  · rw [if_neg hl, if_neg hl, cut_free h, if_pos (.inl (by simp))]
    have e : nams ([] ++ base p) = ([], 4) := by
      rw [List.nil_append]
      have hb := base_slash h
      cases hq : base p with
      | nil => rfl
      | cons c r =>
        rw [hq] at hb
        show (if c = 47 then (if fwalk 0 (pcs r) ≠ 0 then ([], fwalk 0 (pcs r)) else (pcs r, 0)) else ([], 4)) = ([], 4)
        rw [if_neg (fun e => hb (by simp [e]))]
    unfold seenP
    rw [e]
    rfl
theorem seen_yes {a b : List UInt8} (h : (47 : UInt8) ∉ b) : seen (a ++ 47 :: b) = if 44 < (a ++ 47 :: b).length then ([], none, 3) else seenP (a ++ [47]) b := by
  unfold seen
  by_cases hl : 44 < (a ++ 47 :: b).length
  · rw [if_pos hl, if_pos hl]
  · rw [if_neg hl, if_neg hl, cut_snoc h]
    obtain ⟨s, t, e⟩ := cut_cons 47 a
    have hn : a ++ [47] ++ base b = a ++ 47 :: base b := by simp
    have hns := nams_snoc (a := a) (base_slash h)
    unfold seenP
    rw [hn, hns]
    have ha : ahd a = t := by unfold ahd; rw [e]; rfl
    rw [ha, e]
    by_cases hs : s = []
    · have c1 : ¬ ((s :: t ++ [b]).length < 2 ∨ (s :: t ++ [b]).headD [] ≠ []) := by
        rintro (h1 | h1)
        · simp only [List.length_append, List.length_cons, List.length_nil] at h1; omega
        · exact h1 hs
      have c2 : ¬ ((s :: t).headD [] ≠ []) := fun h1 => h1 hs
      have e2 : (s :: t ++ [b]).tail = t ++ [b] := rfl
      rw [if_neg c1, if_neg c2, e2, seenW_snoc b t 0, seenN_snoc, seenD_snoc]
      by_cases hab : a = [] ∧ b = []
      · obtain ⟨rfl, rfl⟩ := hab
        have k1 : ([] : List UInt8) ++ 47 :: [] = [47] := rfl
        have k2 : ([] : List UInt8) = [] ∧ base [] = [] := ⟨rfl, rfl⟩
        have k3 : tild [] = false := rfl
        rw [if_pos k1, if_pos k2]
        simp [k3]
      · have hp : ¬ (a ++ 47 :: b = [47]) := fun e => by
          cases a with
          | nil => exact hab ⟨rfl, by simpa using e⟩
          | cons c r => simp at e
        rw [if_neg hp]
        by_cases hab2 : a = [] ∧ base b = []
        · obtain ⟨ha2, hb2⟩ := hab2
          have ht2 : t = [] := by rw [← ha, ha2]; rfl
          have hsp := split_base hb2
          have htl : tild b = true := by
            rcases base_part b with ⟨_, e2, _⟩ | ⟨_, _, _, e2⟩
            · exact absurd ⟨ha2, by rw [← e2]; exact hb2⟩ hab
            · exact e2
          have k1 : a = [] ∧ base b = [] := ⟨ha2, hb2⟩
          rw [if_pos k1, ht2, hb2, hsp, htl]
          have k2 : fwalk 0 [[]] = 4 := rfl
          simp [k2]
        · rw [if_neg hab2]
          by_cases hf : fwalk 0 (t ++ [base b]) = 0
          · have k1 : ∀ {α : Type} (p q : α), (if fwalk 0 (t ++ [base b]) ≠ 0 then p else q) = q := fun p q => if_neg (fun e => e hf)
            rw [k1, k1]
            rw [if_neg (show ¬ ((t ++ [base b], 0) : List (List UInt8) × Nat).2 ≠ 0 from fun e => e rfl)]
            cases htl : tild b with
            | false => simp
            | true =>
              cases hsp : splitO b with
              | none => simp
              | some x => simp
          · have k1 : ∀ {α : Type} (p q : α), (if fwalk 0 (t ++ [base b]) ≠ 0 then p else q) = p := fun p q => if_pos hf
            rw [k1, k1, if_pos hf, if_pos hf]
    · have c1 : ((s :: t ++ [b]).length < 2 ∨ (s :: t ++ [b]).headD [] ≠ []) := .inr hs
      have c2 : ((s :: t).headD [] ≠ []) := hs
      rw [if_pos c1, if_pos c2]
      rfl

/-- A dot that may be none, as a value. -/
def dotO : Option (Nat × Nat) → Value
  | some (r, n) => dotV r n
  | none => dotV 0 0
/-- Seen's answer. -/
def SeenTo (X : List (List UInt8) × Option (Nat × Nat) × Nat) (w : World) (e : Ending) (w' : World) : Prop :=
  ∃ v, e = .returned (.tuple #[v, dotO X.2.1, .bool X.2.1.isSome, .int .i64 X.2.2]) ∧ OwnS w' v X.1 ∧ Fr w w' ∧ ∀ g, v.ownBlock = some g → w.heap.size ≤ g
theorem str_drop (a b : List UInt8) (n : Nat) (h : n = a.length) : (bs (a ++ b)).extract n (bs (a ++ b)).size = bs b := by
  subst h
  rw [bs_drop, List.drop_left]
theorem str_take (a b : List UInt8) (n : Nat) (h : n = a.length) : (bs (a ++ b)).extract 0 n = bs a := by
  subst h
  rw [bs_take, List.take_left]

set_option maxRecDepth 100000 in
set_option maxHeartbeats 4000000 in
theorem seen_of (pre b rst : List UInt8) (w : World) (hv : Vars w) (hl : (pre ++ b).length ≤ 44) (hbl : (base b).length ≤ b.length)
    (hlast : ∀ w, Calls Tryd.prog 41 #[.string (bs (pre ++ b)), .string ⟨#[47]⟩] w fun e w' => e = .returned (.int .i64 ((pre.length : Int) - 1)) ∧ w' = w)
    (hcut : ∀ w, Calls Tryd.prog 42 #[.string (bs b), .string ⟨#[126]⟩] w fun e w' => e = .returned (.tuple #[.string (bs (base b)), .string (bs rst), .bool (tild b)]) ∧ Fr w w') :
    Calls Tryd.prog 13 #[.string (bs (pre ++ b))] w (SeenTo (seenP pre b) w) := by
  have hpl : pre.length ≤ 44 := by simp at hl; omega
  have hbl2 : b.length ≤ 44 := by simp at hl; omega
  have HN := Lib.hid (fun w => names_any (pre ++ base b) w (by simp; omega))
  have HS := Lib.hid (fun w (hv : Vars w) => split_any b w hv (by omega))
  have HL := Lib.hid hlast
  have HC := Lib.hid hcut
  have hcat : bs pre ++ bs (base b) = bs (pre ++ base b) := bs_append _ _
  have Hcat := Lib.hid hcat
  have Hd := Lib.hid (str_drop pre b pre.length rfl)
  have Ht := Lib.hid (str_take pre b pre.length rfl)
  have hsz : ((bs (pre ++ b)).size : Int) ≤ 44 := by rw [bs_size]; omega
  have hs2 : pre.length ≤ (bs (pre ++ b)).size := by rw [bs_size]; simp
  have hs3 : (pre.length : Int) ≤ ((bs (pre ++ b)).size : Int) := by omega
  have hz1 : (bs pre).size ≤ 44 := hpl
  have hz2 : (bs (base b)).size ≤ 44 := by rw [bs_size]; omega
  have z1 : ¬ 9223372036854775807 < (bs pre).size + (bs (base b)).size := by omega
  have hsm : (pre.length : Int) - 1 + 1 = pre.length := by omega
  clear hlast hcut hcat hl hpl hbl2 hz1 hz2
  have hX : ∃ X, nams (pre ++ base b) = X := ⟨_, rfl⟩
  obtain ⟨X, hX⟩ := hX
  rw [hX] at HN
  have hP : seenP pre b = if X.2 ≠ 0 then ([], none, X.2) else if tild b = false then (X.1, none, 0) else match splitO b with
    | some (_, r, n) => (X.1, some (r, n), 0)
    | none => ([], none, 4) := by rw [← hX]; rfl
  have HP := Lib.hid hP
  clear hP hX
  obtain ⟨Y, hY⟩ : ∃ Y, seenP pre b = Y := ⟨_, rfl⟩
  rw [hY] at HP ⊢
  clear hY
  generalize hp : bs (pre ++ b) = p at *
  generalize hq : bs (pre ++ base b) = q at *
  clear hp hq
  go_enter Tryd.func13, Tryd.ntmps13
  go_wp2_with fail
  refine (HL.out _).mono ?_
  rintro e w1 ⟨rfl, rfl⟩
  go_wp2_with fail
  have hd := Hd.out
  have ht := Ht.out
  have hc := Hcat.out
  have f0 : Fr w (w.alloc (.cells #[.int .u8 0, .int .u32 0] 31)) := (Frm.refl _ w).alloc _
  have hB := Blk.alloc w 31 #[.int .u8 0, .int .u32 0]
  rw [hd]
  refine (HC.out _).mono ?_
  rintro e w2 ⟨rfl, f2⟩
  have g2 := f0.trans f2
  have hB2 := hB.keep f2 (fun h => h)
  have hzs : w.heap.size + 1 ≤ w2.heap.size := by have := f2.size; simp at this; omega
  clear hB f0 f2
  go_wp2_with fail
  refine (HN.out _).mono ?_
  rintro e w3 ⟨v, rfl, o3, f3, n3⟩
  have g3 := g2.trans f3
  have hB3 := hB2.keep f3 (fun h => h)
  have n3' : ∀ g, v.ownBlock = some g → w.heap.size + 1 ≤ g := fun g hg => Nat.le_trans hzs (n3 g hg)
  have c0 := hB3.cell 0 rfl
  have c1 := hB3.cell 1 rfl
  have r0 := hB3.free 0
  have r1 := hB3.free 1
  have hlt := hB3.lt
  have hv3 := hv.keep g3
  obtain ⟨l, n⟩ := X
  simp only at HP o3 ⊢
  obtain ⟨a, cap, rfl, _, _⟩ := Row.slice o3
  clear hB2 g2 f3 hzs n3 HN HC HL
  have zfin : ∀ (w4 : World), Blk w4 w.heap.size 31 #[.int .u8 0, .int .u32 0] → Fr w w4 → Blk ((w4.setCell ⟨w.heap.size, 0, none⟩ (.int .u8 0)).setCell ⟨w.heap.size, 1, none⟩ (.int .u32 0)) w.heap.size 31 #[.int .u8 0, .int .u32 0] ∧ Fr w ((w4.setCell ⟨w.heap.size, 0, none⟩ (.int .u8 0)).setCell ⟨w.heap.size, 1, none⟩ (.int .u32 0)) := fun w4 h4 g4 =>
    ⟨(h4.set 0 (.int .u8 0)).set 1 (.int .u32 0), (g4.setCell (p := ⟨w.heap.size, 0, none⟩) (fun h => absurd h (by simp)) _).setCell (p := ⟨w.heap.size, 1, none⟩) (fun h => absurd h (by simp)) _⟩
  have Zfin := Lib.hid zfin
  clear zfin
  by_cases hn : n = 0
  · subst hn
    cases htl : tild b with
    | false =>
      have hY : Y = (l, none, 0) := by rw [HP.out, if_neg (fun e => e rfl), if_pos htl]
      have HY := Lib.hid hY
      clear hY HP
      go_wp2_with fail
      obtain ⟨hS, ff⟩ := Zfin.out w3 hB3 g3
      have d0 := hS.cell 0 rfl
      have d1 := hS.cell 1 rfl
      have oF : OwnS _ (.slice a l.length cap) l := Row.setOther (p := ⟨w.heap.size, 1, none⟩) (Row.setOther (p := ⟨w.heap.size, 0, none⟩) o3 (fun e => by have h9 : w.heap.size + 1 ≤ w.heap.size := n3' _ e; omega) (.int .u8 0)) (fun e => by have h9 : w.heap.size + 1 ≤ w.heap.size := n3' _ e; omega) (.int .u32 0)
      exact bodyPost_ret (v := .tuple #[.slice a l.length cap, .agg #[.int .u8 0, .int .u32 0], .bool false, .int .i64 0]) (by simp [results, Tryd.results13, go_sem, d0, d1]) rfl (by rw [HY.out]; exact ⟨_, rfl, oF, ff, fun g e => by have := n3' g e; omega⟩)
    | true =>
      have hY : Y = match splitO b with
        | some (_, r, m) => (l, some (r, m), 0)
        | none => ([], none, 4) := by rw [HP.out, if_neg (fun e => e rfl), htl, if_neg (by simp)]
      clear HP
      have hsp := HS.out
      unfold SplitTo splitV at hsp
      cases hso : splitO b with
      | none =>
        rw [hso] at hY
        simp only [hso, dotV] at hsp
        have HY := Lib.hid hY
        have Hsp := Lib.hid hsp
        clear hY hsp
        go_wp2_with fail
        refine (Hsp.out _ hv3).mono ?_
        rintro e w4 ⟨rfl, f4⟩
        have hB4 := hB3.keep f4 (fun h => h)
        have g4 := g3.trans f4
        have e0 := hB4.cell 0 rfl
        have e1 := hB4.cell 1 rfl
        have s0 := hB4.free 0
        have s1 := hB4.free 1
        go_wp2_with fail
        obtain ⟨hS1, ff1⟩ := Zfin.out w4 hB4 g4
        obtain ⟨hS, ff⟩ := Zfin.out _ hS1 ff1
        have d0 := hS.cell 0 rfl
        have d1 := hS.cell 1 rfl
        exact bodyPost_ret (v := .tuple #[.slice none 0 0, .agg #[.int .u8 0, .int .u32 0], .bool false, .int .i64 4]) (by simp [results, Tryd.results13, go_sem, d0, d1]) rfl (by rw [HY.out]; exact ⟨_, rfl, OwnS.nil_ _, ff, fun g e => by cases e⟩)
      | some x =>
        obtain ⟨nm, r, m⟩ := x
        rw [hso] at hY
        simp only [hso, dotV] at hsp
        have HY := Lib.hid hY
        have Hsp := Lib.hid hsp
        clear hY hsp
        go_wp2_with fail
        refine (Hsp.out _ hv3).mono ?_
        rintro e w4 ⟨rfl, f4⟩
        have hB4 := hB3.keep f4 (fun h => h)
        have g4 := g3.trans f4
        have e0 := hB4.cell 0 rfl
        have e1 := hB4.cell 1 rfl
        have s0 := hB4.free 0
        have s1 := hB4.free 1
        have o4 := Row.keep o3 f4 (fun _ _ h => h)
        go_wp2_with fail
        go_region
        have hS := (((hB4.set 0 (.int .u8 r)).set 1 (.int .u32 m)).set 0 (.int .u8 r)).set 1 (.int .u32 m)
        have d0 := (hS.drew).cell 0 rfl
        have d1 := (hS.drew).cell 1 rfl
        have ff : Fr w ((((w4.setCell ⟨w.heap.size, 0, none⟩ (.int .u8 r)).setCell ⟨w.heap.size, 1, none⟩ (.int .u32 m)).setCell ⟨w.heap.size, 0, none⟩ (.int .u8 r)).setCell ⟨w.heap.size, 1, none⟩ (.int .u32 m)).drew :=
          ((((g4.setCell (p := ⟨w.heap.size, 0, none⟩) (fun h => absurd h (by simp)) _).setCell (p := ⟨w.heap.size, 1, none⟩) (fun h => absurd h (by simp)) _).setCell (p := ⟨w.heap.size, 0, none⟩) (fun h => absurd h (by simp)) _).setCell (p := ⟨w.heap.size, 1, none⟩) (fun h => absurd h (by simp)) _).drew
        have hno : (Value.slice a l.length cap).ownBlock ≠ some w.heap.size := fun e => by have h9 := n3' _ e; omega
        have oF : OwnS ((((w4.setCell ⟨w.heap.size, 0, none⟩ (.int .u8 r)).setCell ⟨w.heap.size, 1, none⟩ (.int .u32 m)).setCell ⟨w.heap.size, 0, none⟩ (.int .u8 r)).setCell ⟨w.heap.size, 1, none⟩ (.int .u32 m)).drew (.slice a l.length cap) l :=
          Row.drew (Row.setOther (p := ⟨w.heap.size, 1, none⟩) (Row.setOther (p := ⟨w.heap.size, 0, none⟩) (Row.setOther (p := ⟨w.heap.size, 1, none⟩) (Row.setOther (p := ⟨w.heap.size, 0, none⟩) o4 hno _) hno _) hno _) hno _)
        all_goals
          go_wp2_with fail
          exact bodyPost_ret (v := .tuple #[.slice a l.length cap, .agg #[.int .u8 r, .int .u32 m], .bool true, .int .i64 0]) (by simp [results, Tryd.results13, go_sem, d0, d1]) rfl (by rw [HY.out]; exact ⟨_, rfl, oF, ff, fun g e => by have := n3' g e; omega⟩)
  · have hY : Y = ([], none, n) := by rw [HP.out, if_pos hn]
    have hq : ((n : Int) != 0) = true := by simp; exact hn
    have HY := Lib.hid hY
    clear hY HP hn
    go_wp2_with fail
    obtain ⟨hS, ff⟩ := Zfin.out w3 hB3 g3
    have d0 := hS.cell 0 rfl
    have d1 := hS.cell 1 rfl
    exact bodyPost_ret (v := .tuple #[.slice none 0 0, .agg #[.int .u8 0, .int .u32 0], .bool false, .int .i64 n]) (by simp [results, Tryd.results13, go_sem, d0, d1]) rfl (by rw [HY.out]; exact ⟨_, rfl, OwnS.nil_ _, ff, fun g e => by cases e⟩)
theorem base_len (b : List UInt8) : (base b).length ≤ b.length := by
  rcases base_part b with ⟨_, e, _⟩ | ⟨y, e, _, _⟩
  · rw [e]; exact Nat.le_refl _
  · have h := congrArg List.length e
    rw [List.length_append] at h
    omega
theorem cut_tilde (b : List UInt8) (hl : b.length ≤ 1000) : ∃ rst, ∀ w, Calls Tryd.prog 42 #[.string (bs b), .string ⟨#[126]⟩] w fun e w' => e = .returned (.tuple #[.string (bs (base b)), .string (bs rst), .bool (tild b)]) ∧ Fr w w' := by
  rcases base_part b with ⟨h, e, t⟩ | ⟨y, e, h, t⟩
  · exact ⟨[], fun w => by rw [e, t]; exact (cut_no 126 b w h).mono fun e w' ⟨h1, h2⟩ => ⟨h1, by rw [h2]; exact Frm.refl _ _⟩⟩
  · refine ⟨y, fun w => ?_⟩
    have := cut_yes 126 (base b) y w h (by rw [← e]; omega)
    rw [← e] at this
    rw [t]
    exact this
set_option maxRecDepth 100000 in
set_option maxHeartbeats 1000000 in
theorem seen_long (p : List UInt8) (w : World) (h : 44 < p.length) : Calls Tryd.prog 13 #[.string (bs p)] w (SeenTo ([], none, 3) w) := by
  have h1 : (44 : Int) < ((bs p).size : Int) := by rw [bs_size]; omega
  generalize bs p = P at *
  go_enter Tryd.func13, Tryd.ntmps13
  have ff : Fr w (w.alloc (.cells #[.int .u8 0, .int .u32 0] 31)) := (Frm.refl _ w).alloc _
  go_wp2_with fail
  exact bodyPost_ret (v := .tuple #[.slice none 0 0, .agg #[.int .u8 0, .int .u32 0], .bool false, .int .i64 3]) (by simp [results, Tryd.results13, go_sem]) rfl ⟨_, rfl, OwnS.nil_ _, ff, fun g e => by cases e⟩
theorem seen_any (p : List UInt8) (w : World) (hv : Vars w) : Calls Tryd.prog 13 #[.string (bs p)] w (SeenTo (seen p) w) := by
  by_cases hl : 44 < p.length
  · have e : seen p = ([], none, 3) := by unfold seen; rw [if_pos hl]
    rw [e]
    exact seen_long p w hl
  · rcases last_of 47 p with h | ⟨a, b, rfl, h⟩
    · rw [seen_no h, if_neg hl]
      obtain ⟨rst, hc⟩ := cut_tilde p (by omega)
      exact seen_of [] p rst w hv (by simp; omega) (base_len p) (fun w => last_no 47 p w h (by omega)) hc
    · rw [seen_yes h, if_neg hl]
      have e : a ++ 47 :: b = (a ++ [47]) ++ b := by simp
      obtain ⟨rst, hc⟩ := cut_tilde b (by simp at hl; omega)
      have hla := fun w => last_yes 47 a b w h (by omega)
      rw [e] at hl hla ⊢
      refine seen_of (a ++ [47]) b rst w hv (by omega) (base_len b) (fun w => ?_) hc
      have e2 : (((a ++ [47]).length : Nat) : Int) - 1 = (a.length : Nat) := by simp
      rw [e2]
      exact hla w
end Go.Proofs.YtffhakomnkicoaaDoor
