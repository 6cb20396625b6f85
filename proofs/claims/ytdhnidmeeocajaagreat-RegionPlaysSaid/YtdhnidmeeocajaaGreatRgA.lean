/- The blocks of a region as bytes: headers, log blocks, groups; what is read of them. Of no program. No condition. -/
import Derived.Test.YtdhnidmeeocajaaGreatDvM
import Derived.Test.YtdhnidmeeocajaaGreatCodecT
import Derived.Test.YtdhnidmeeocajaaGreatCodecP
namespace Go.Proofs.YtdhnidmeeocajaaGreat

theorem beN_beB (k : Nat) : ∀ n, beN (beB k n) = n % 256 ^ k := by
  induction k with
  | zero => intro n; rw [Nat.pow_zero, Nat.mod_one]; rfl
  | succ k ih =>
    intro n
    show beN (beB k (n / 256) ++ [UInt8.ofNat n]) = _
    rw [beN_snoc, ih, Nat.pow_succ, Nat.mul_comm (256 ^ k) 256, Nat.mod_mul, UInt8.toNat_ofNat']
    omega
theorem beB_beN : ∀ (k : Nat) (l : List UInt8), l.length = k → beB k (beN l) = l := by
  intro k
  induction k with
  | zero => intro l h; rw [List.eq_nil_of_length_eq_zero h]; rfl
  | succ k ih =>
    intro l h
    rcases List.eq_nil_or_concat l with rfl | ⟨l', b, rfl⟩
    · cases h
    · rw [List.concat_eq_append] at h ⊢
      rw [List.length_append] at h
      have hl : l'.length = k := by simpa using h
      have hb := b.toNat_lt
      rw [beN_snoc]
      show beB k ((256 * beN l' + b.toNat) / 256) ++ [UInt8.ofNat (256 * beN l' + b.toNat)] = _
      rw [show (256 * beN l' + b.toNat) / 256 = beN l' by omega, ih l' hl]
      congr 2
      apply UInt8.toNat_inj.1
      rw [UInt8.toNat_ofNat']
      omega
theorem beB_one (n : Nat) : beB 1 n = [UInt8.ofNat n] := rfl

def nul (k : Nat) : List UInt8 := List.replicate k 0
theorem nul_len (k : Nat) : (nul k).length = k := List.length_replicate
/-- How many log blocks a group of so many bytes takes. -/
def needs (n : Nat) : Nat := (max n 1 - 1) / 58 + 1
theorem needs_pos (n : Nat) : 0 < needs n := Nat.succ_pos _
theorem needs_lt (k n : Nat) : k < needs n ↔ k = 0 ∨ 58 * k < n := by unfold needs; omega
theorem needs_last {k n : Nat} (h : k + 1 = needs n) : n ≤ 58 * (k + 1) := by unfold needs at h; omega
theorem needs_more {k n : Nat} (h : k + 1 < needs n) : 58 * (k + 1) < n := by unfold needs at h; omega
def logB (i flag : Nat) (s : List UInt8) : List UInt8 := beB 2 i ++ (beB 1 flag ++ (beB 1 s.length ++ (s ++ (nul (58 - s.length) ++ beB 2 i))))
def hdB (g : Nat) : List UInt8 := beB 4 g ++ (nul 56 ++ beB 4 g)
theorem hdB_len (g : Nat) : (hdB g).length = 64 := by simp [hdB, beB_len, nul_len]
theorem hdB_zero : hdB 0 = zb := by decide
theorem logB_len {i flag : Nat} {s : List UInt8} (h : s.length ≤ 58) : (logB i flag s).length = 64 := by
  simp only [logB, List.length_append, beB_len, nul_len]
  omega

/-- The parts of a log block. -/
def fNum (s : List UInt8) : Nat := beN (s.take 2)
def fEnd (s : List UInt8) : Nat := beN ((s.drop 2).take 1)
def fSize (s : List UInt8) : Nat := beN ((s.drop 3).take 1)
def fBytes (s : List UInt8) : List UInt8 := (s.drop 4).take 58
def fAgain (s : List UInt8) : Nat := beN ((s.drop 62).take 2)
def pieceB (s : List UInt8) : List UInt8 := (fBytes s).take (fSize s)
def okB (i : Nat) (s : List UInt8) : Prop := fNum s = i ∧ fAgain s = i ∧ fEnd s ≤ 1 ∧ fSize s ≤ 58 ∧ (fEnd s = 1 ∨ fSize s = 58) ∧ (fBytes s).drop (fSize s) = nul (58 - fSize s)
instance (i : Nat) (s : List UInt8) : Decidable (okB i s) := inferInstanceAs (Decidable (_ ∧ _))
theorem logB_parts {i flag : Nat} {s : List UInt8} (h : s.length ≤ 58) (hi : i < 65536) (hf : flag < 256) :
    fNum (logB i flag s) = i ∧ fEnd (logB i flag s) = flag ∧ fSize (logB i flag s) = s.length ∧ fBytes (logB i flag s) = s ++ nul (58 - s.length) ∧ fAgain (logB i flag s) = i := by
  have l2 : (beB 2 i).length = 2 := beB_len 2 i
  have l1 : ∀ n, (beB 1 n).length = 1 := beB_len 1
  have e2 : beN (beB 2 i) = i := by rw [beN_beB]; exact Nat.mod_eq_of_lt hi
  have e1 : ∀ n, n < 256 → beN (beB 1 n) = n := fun n hn => by rw [beN_beB]; exact Nat.mod_eq_of_lt hn
  have d2 : (logB i flag s).drop 2 = beB 1 flag ++ (beB 1 s.length ++ (s ++ (nul (58 - s.length) ++ beB 2 i))) := by
    unfold logB; rw [List.drop_append_of_le_length (by omega), List.drop_of_length_le (by omega), List.nil_append]
  have d3 : (logB i flag s).drop 3 = beB 1 s.length ++ (s ++ (nul (58 - s.length) ++ beB 2 i)) := by
    rw [show 3 = 2 + 1 from rfl, ← List.drop_drop, d2]; rfl
  have d4 : (logB i flag s).drop 4 = s ++ (nul (58 - s.length) ++ beB 2 i) := by
    rw [show 4 = 3 + 1 from rfl, ← List.drop_drop, d3]; rfl
  have ln : (s ++ nul (58 - s.length)).length = 58 := by rw [List.length_append, nul_len]; omega
  have d62 : (logB i flag s).drop 62 = beB 2 i := by
    rw [show 62 = 4 + 58 from rfl, ← List.drop_drop, d4, ← List.append_assoc, List.drop_append_of_le_length (by omega), List.drop_of_length_le (by omega), List.nil_append]
  refine ⟨?_, ?_, ?_, ?_, ?_⟩
  · unfold fNum logB; rw [List.take_append_of_le_length (by omega), List.take_of_length_le (by omega), e2]
  · unfold fEnd; rw [d2, List.take_append_of_le_length (by rw [l1]; omega), List.take_of_length_le (by rw [l1]; omega), e1 _ hf]
  · unfold fSize; rw [d3, List.take_append_of_le_length (by rw [l1]; omega), List.take_of_length_le (by rw [l1]; omega), e1 _ (by omega)]
  · unfold fBytes; rw [d4, ← List.append_assoc, List.take_append_of_le_length (by omega), List.take_of_length_le (by omega)]
  · unfold fAgain; rw [d62, List.take_of_length_le (by omega), e2]
theorem logB_ok {i flag : Nat} {s : List UInt8} (h : s.length ≤ 58) (hi : i < 65536) (hf : flag ≤ 1) (h2 : flag = 1 ∨ s.length = 58) : okB i (logB i flag s) := by
  obtain ⟨h3, h4, h5, h6, h7⟩ := logB_parts (flag := flag) h hi (by omega)
  refine ⟨h3, h7, by omega, by omega, by omega, ?_⟩
  rw [h6, h5, List.drop_append_of_le_length (Nat.le_refl _), List.drop_of_length_le (Nat.le_refl _), List.nil_append]
theorem logB_piece {i flag : Nat} {s : List UInt8} (h : s.length ≤ 58) (hi : i < 65536) (hf : flag ≤ 1) : pieceB (logB i flag s) = s := by
  obtain ⟨h3, h4, h5, h6, h7⟩ := logB_parts (flag := flag) h hi (by omega)
  unfold pieceB
  rw [h6, h5, List.take_append_of_le_length (Nat.le_refl _), List.take_of_length_le (Nat.le_refl _)]
theorem split64 (s : List UInt8) : s = s.take 2 ++ ((s.drop 2).take 1 ++ ((s.drop 3).take 1 ++ ((s.drop 4).take 58 ++ s.drop 62))) := by
  have e4 : s.drop 4 = (s.drop 4).take 58 ++ s.drop 62 := by
    conv => lhs; rw [← List.take_append_drop 58 (s.drop 4), List.drop_drop]
  have e3 : s.drop 3 = (s.drop 3).take 1 ++ s.drop 4 := by
    conv => lhs; rw [← List.take_append_drop 1 (s.drop 3), List.drop_drop]
  have e2 : s.drop 2 = (s.drop 2).take 1 ++ s.drop 3 := by
    conv => lhs; rw [← List.take_append_drop 1 (s.drop 2), List.drop_drop]
  rw [← e4, ← e3, ← e2, List.take_append_drop]
/-- A complete log block is what is put for its parts. -/
theorem okB_eq {i : Nat} {s : List UInt8} (hs : s.length = 64) (h : okB i s) : s = logB i (fEnd s) (pieceB s) := by
  obtain ⟨h1, h2, h3, h4, h5, h6⟩ := h
  have hb : (fBytes s).length = 58 := by unfold fBytes; rw [List.length_take, List.length_drop]; omega
  have lp : (pieceB s).length = fSize s := by unfold pieceB; rw [List.length_take]; omega
  have ep : pieceB s ++ nul (58 - fSize s) = fBytes s := by rw [← h6]; exact List.take_append_drop _ _
  have b2 : beB 2 i = s.take 2 := by rw [← h1]; exact beB_beN 2 _ (by rw [List.length_take]; omega)
  have b3 : beB 2 i = s.drop 62 := by
    rw [← h2]; unfold fAgain
    rw [List.take_of_length_le (by rw [List.length_drop]; omega)]
    exact beB_beN 2 _ (by rw [List.length_drop]; omega)
  have be : beB 1 (fEnd s) = (s.drop 2).take 1 := beB_beN 1 _ (by rw [List.length_take, List.length_drop]; omega)
  have bz : beB 1 (fSize s) = (s.drop 3).take 1 := beB_beN 1 _ (by rw [List.length_take, List.length_drop]; omega)
  unfold logB
  rw [lp, be, bz, ← List.append_assoc (pieceB s), ep]
  conv => rhs; lhs; rw [b2]
  rw [b3]
  exact split64 s
theorem zb_no {i : Nat} (h : i ≠ 0) : ¬ okB i zb := fun e => h (by rw [← e.1]; decide)

/-- The k-th block of a group; the first one has the number i. -/
def pieceAt (g : List UInt8) (k : Nat) : List UInt8 := (g.drop (58 * k)).take 58
def flagAt (g : List UInt8) (k : Nat) : Nat := if 58 * (k + 1) < g.length then 0 else 1
def blk (i : Nat) (g : List UInt8) (k : Nat) : List UInt8 := logB (i + k) (flagAt g k) (pieceAt g k)
def blks (i : Nat) (g : List UInt8) : List (List UInt8) := (List.range (needs g.length)).map (blk i g)
def blksAll : Nat → List (List UInt8) → List (List UInt8)
  | _, [] => []
  | i, g :: r => blks i g ++ blksAll (i + needs g.length) r
def nb : List (List UInt8) → Nat
  | [] => 0
  | g :: r => needs g.length + nb r
theorem pieceAt_len (g : List UInt8) (k : Nat) : (pieceAt g k).length ≤ 58 := by unfold pieceAt; rw [List.length_take]; omega
theorem flagAt_le (g : List UInt8) (k : Nat) : flagAt g k ≤ 1 := by unfold flagAt; split <;> omega
theorem blk_len (i : Nat) (g : List UInt8) (k : Nat) : (blk i g k).length = 64 := logB_len (pieceAt_len g k)
theorem blk_ok {i : Nat} {g : List UInt8} {k : Nat} (h : i + k < 65536) : okB (i + k) (blk i g k) := by
  refine logB_ok (pieceAt_len g k) h (flagAt_le g k) ?_
  unfold flagAt
  split
  · right; unfold pieceAt; rw [List.length_take, List.length_drop]; omega
  · left; rfl
theorem blks_len (i : Nat) (g : List UInt8) : (blks i g).length = needs g.length := by unfold blks; rw [List.length_map, List.length_range]
theorem blks_at (i : Nat) (g : List UInt8) (k : Nat) (h : k < needs g.length) : (blks i g)[k]? = some (blk i g k) := by
  unfold blks
  rw [List.getElem?_map, List.getElem?_range h]
  rfl
theorem blksAll_len : ∀ (l : List (List UInt8)) (i : Nat), (blksAll i l).length = nb l
  | [], _ => rfl
  | g :: r, i => by
    show (blks i g ++ blksAll (i + needs g.length) r).length = _
    rw [List.length_append, blks_len, blksAll_len r]
    rfl
theorem nb_append : ∀ (a b : List (List UInt8)), nb (a ++ b) = nb a + nb b
  | [], b => by rw [List.nil_append]; exact (Nat.zero_add _).symm
  | g :: r, b => by
    show needs g.length + nb (r ++ b) = needs g.length + nb r + nb b
    rw [nb_append r b]; omega
theorem blksAll_append : ∀ (a b : List (List UInt8)) (i : Nat), blksAll i (a ++ b) = blksAll i a ++ blksAll (i + nb a) b
  | [], b, i => rfl
  | g :: r, b, i => by
    show blks i g ++ blksAll (i + needs g.length) (r ++ b) = blks i g ++ blksAll (i + needs g.length) r ++ blksAll (i + (needs g.length + nb r)) b
    rw [blksAll_append r b, List.append_assoc, Nat.add_assoc]
theorem nb_take_le (l : List (List UInt8)) (s : Nat) : nb (l.take s) ≤ nb l := by
  conv => rhs; rw [← List.take_append_drop s l, nb_append]
  omega

/-- What is read of log blocks: the first one has the number i; behind it stand the bytes of a group that goes on. -/
def scan (i : Nat) (cur : List UInt8) : List (List UInt8) → List (List UInt8)
  | [] => []
  | s :: r => if okB i s then (if fEnd s = 1 then (cur ++ pieceB s) :: scan (i + 1) [] r else scan (i + 1) (cur ++ pieceB s) r) else []
theorem scan_cons (i : Nat) (cur s : List UInt8) (r : List (List UInt8)) : scan i cur (s :: r) = if okB i s then (if fEnd s = 1 then (cur ++ pieceB s) :: scan (i + 1) [] r else scan (i + 1) (cur ++ pieceB s) r) else [] := rfl
theorem piece_next (g : List UInt8) (j : Nat) : g.take (58 * j) ++ pieceAt g j = g.take (58 * (j + 1)) := by
  unfold pieceAt
  rw [show 58 * (j + 1) = 58 * j + 58 by omega, List.take_add]
theorem scan_from (i : Nat) (g : List UInt8) (C : List (List UInt8)) (hi : i + needs g.length ≤ 65536) : ∀ m j, j + (m + 1) = needs g.length →
    (∀ x, j ≤ x → x < needs g.length → ∃ c, C[x]? = some c ∧ (c = blk i g x ∨ ¬ okB (i + x) c)) →
    ((∀ x, j ≤ x → x < needs g.length → C[x]? = some (blk i g x)) ∧ scan (i + j) (g.take (58 * j)) (C.drop j) = g :: scan (i + needs g.length) [] (C.drop (needs g.length))) ∨
    ((∃ x, j ≤ x ∧ x < needs g.length ∧ C[x]? ≠ some (blk i g x)) ∧ scan (i + j) (g.take (58 * j)) (C.drop j) = []) := by
  intro m
  induction m with
  | zero =>
    intro j hj hC
    obtain ⟨c, hc, hcc⟩ := hC j (Nat.le_refl _) (by omega)
    have hlt : j < C.length := (List.getElem?_eq_some_iff.1 hc).1
    have hd : C.drop j = c :: C.drop (j + 1) := by rw [List.drop_eq_getElem_cons hlt, (List.getElem?_eq_some_iff.1 hc).2]
    rw [hd, scan_cons]
    by_cases hok : okB (i + j) c
    · have e : c = blk i g j := hcc.resolve_right (fun h => h hok)
      refine .inl ⟨fun x h1 h2 => ?_, ?_⟩
      · obtain rfl : x = j := by omega
        rw [hc, e]
      · have hp : pieceB c = pieceAt g j := by rw [e]; exact logB_piece (pieceAt_len g j) (by omega) (flagAt_le g j)
        have hE : fEnd c = 1 := by
          rw [e]
          have := (logB_parts (i := i + j) (flag := flagAt g j) (pieceAt_len g j) (by omega) (by have := flagAt_le g j; omega)).2.1
          unfold blk
          rw [this]
          unfold flagAt
          rw [if_neg (by have := needs_last (k := j) (n := g.length) (by omega); omega)]
        rw [if_pos hok, if_pos hE, hp, piece_next, List.take_of_length_le (needs_last (by omega)), show needs g.length = j + 1 by omega, Nat.add_assoc]
    · refine .inr ⟨⟨j, Nat.le_refl _, by omega, fun h => hok ?_⟩, by rw [if_neg hok]⟩
      rw [hc] at h
      obtain rfl := Option.some.inj h
      exact blk_ok (by omega)
  | succ m ih =>
    intro j hj hC
    obtain ⟨c, hc, hcc⟩ := hC j (Nat.le_refl _) (by omega)
    have hlt : j < C.length := (List.getElem?_eq_some_iff.1 hc).1
    have hd : C.drop j = c :: C.drop (j + 1) := by rw [List.drop_eq_getElem_cons hlt, (List.getElem?_eq_some_iff.1 hc).2]
    rw [hd, scan_cons]
    by_cases hok : okB (i + j) c
    · have e : c = blk i g j := hcc.resolve_right (fun h => h hok)
      have hp : pieceB c = pieceAt g j := by rw [e]; exact logB_piece (pieceAt_len g j) (by omega) (flagAt_le g j)
      have hE : fEnd c = 0 := by
        rw [e]
        have := (logB_parts (i := i + j) (flag := flagAt g j) (pieceAt_len g j) (by omega) (by have := flagAt_le g j; omega)).2.1
        unfold blk
        rw [this]
        unfold flagAt
        rw [if_pos (needs_more (by omega))]
      rw [if_pos hok, if_neg (by omega), hp, piece_next]
      rcases ih (j + 1) (by omega) (fun x h1 h2 => hC x (by omega) h2) with ⟨h1, h2⟩ | ⟨⟨x, h1, h2, h3⟩, h4⟩
      · refine .inl ⟨fun x hx1 hx2 => ?_, h2⟩
        by_cases hx : x = j
        · rw [hx, hc, e]
        · exact h1 x (by omega) hx2
      · exact .inr ⟨⟨x, by omega, h2, h3⟩, h4⟩
    · refine .inr ⟨⟨j, Nat.le_refl _, by omega, fun h => hok ?_⟩, by rw [if_neg hok]⟩
      rw [hc] at h
      obtain rfl := Option.some.inj h
      exact blk_ok (by omega)
/-- Of blocks each of which is that of the groups or not complete, and the next one is not: the first groups are read. -/
theorem scan_all : ∀ (l : List (List UInt8)) (i : Nat) (C : List (List UInt8)), i + nb l ≤ 65536 →
    (∀ x, x < nb l → ∃ c, C[x]? = some c ∧ ((blksAll i l)[x]? = some c ∨ ¬ okB (i + x) c)) → (∀ c, C[nb l]? = some c → ¬ okB (i + nb l) c) →
    ∃ m, m ≤ l.length ∧ scan i [] C = l.take m ∧ ∀ s, s ≤ l.length → (∀ x, x < nb (l.take s) → C[x]? = (blksAll i l)[x]?) → s ≤ m := by
  intro l
  induction l with
  | nil =>
    intro i C _ _ hz
    refine ⟨0, Nat.le_refl _, ?_, fun s hs _ => hs⟩
    cases C with
    | nil => rfl
    | cons c r =>
      rw [scan_cons, if_neg (show ¬ okB i c from hz c rfl)]
      rfl
  | cons g r ih =>
    intro i C hi hC hz
    have hn : nb (g :: r) = needs g.length + nb r := rfl
    have hA : ∀ x, x < needs g.length → (blksAll i (g :: r))[x]? = some (blk i g x) := fun x hx => by
      show (blks i g ++ _)[x]? = _
      rw [List.getElem?_append_left (by rw [blks_len]; exact hx), blks_at i g x hx]
    have hB : ∀ x, (blksAll i (g :: r))[needs g.length + x]? = (blksAll (i + needs g.length) r)[x]? := fun x => by
      show (blks i g ++ _)[needs g.length + x]? = _
      rw [List.getElem?_append_right (by rw [blks_len]; omega), blks_len, Nat.add_sub_cancel_left]
    have hp := needs_pos g.length
    obtain ⟨m, hm⟩ : ∃ m, needs g.length = m + 1 := ⟨needs g.length - 1, by omega⟩
    have key := scan_from i g C (by omega) m 0 (by omega) (fun x _ hx => by
      obtain ⟨c, h1, h2⟩ := hC x (by omega)
      rw [hA x hx] at h2
      exact ⟨c, h1, h2.imp (fun h => (Option.some.inj h).symm) id⟩)
    rw [Nat.mul_zero, List.take_zero, Nat.add_zero, List.drop_zero] at key
    rcases key with ⟨h1, h2⟩ | ⟨⟨x, _, h1, h2⟩, h3⟩
    · obtain ⟨k, k1, k2, k3⟩ := ih (i + needs g.length) (C.drop (needs g.length)) (by omega) (fun x hx => by
        obtain ⟨c, e1, e2⟩ := hC (needs g.length + x) (by omega)
        rw [hB] at e2
        exact ⟨c, by rw [List.getElem?_drop]; exact e1, by rw [Nat.add_assoc]; exact e2⟩) (fun c hc => by
        rw [List.getElem?_drop, ← hn] at hc
        have := hz c hc
        rw [hn, ← Nat.add_assoc] at this
        exact this)
      refine ⟨k + 1, by rw [List.length_cons]; omega, by rw [h2, k2]; rfl, fun s hs hx => ?_⟩
      cases s with
      | zero => omega
      | succ s =>
        rw [List.length_cons] at hs
        have := k3 s (by omega) (fun x hlt => by
          have := hx (needs g.length + x) (by show _ < needs g.length + nb (r.take s); omega)
          rw [hB] at this
          rw [List.getElem?_drop]
          exact this)
        omega
    · refine ⟨0, Nat.zero_le _, h3, fun s hs hx => ?_⟩
      cases s with
      | zero => omega
      | succ s =>
        refine absurd ?_ h2
        rw [hx x (by show _ < needs g.length + nb (r.take s); omega), hA x h1]

/-- What a header tells. -/
def genOf (s : List UInt8) : Nat := if 0 < beN (s.take 4) ∧ (s.drop 4).take 56 = nul 56 ∧ beN ((s.drop 60).take 4) = beN (s.take 4) then beN (s.take 4) else 0
theorem hdB_parts {g : Nat} (h : g < 4294967296) : beN ((hdB g).take 4) = g ∧ ((hdB g).drop 4).take 56 = nul 56 ∧ beN (((hdB g).drop 60).take 4) = g := by
  have l4 : (beB 4 g).length = 4 := beB_len 4 g
  have e4 : beN (beB 4 g) = g := by rw [beN_beB]; exact Nat.mod_eq_of_lt h
  have d4 : (hdB g).drop 4 = nul 56 ++ beB 4 g := by
    unfold hdB; rw [List.drop_append_of_le_length (by omega), List.drop_of_length_le (by omega), List.nil_append]
  have d60 : (hdB g).drop 60 = beB 4 g := by
    rw [show 60 = 4 + 56 from rfl, ← List.drop_drop, d4, List.drop_append_of_le_length (by rw [nul_len]; omega), List.drop_of_length_le (by rw [nul_len]; omega), List.nil_append]
  refine ⟨?_, ?_, ?_⟩
  · unfold hdB; rw [List.take_append_of_le_length (by omega), List.take_of_length_le (by omega), e4]
  · rw [d4, List.take_append_of_le_length (by rw [nul_len]; omega), List.take_of_length_le (by rw [nul_len]; omega)]
  · rw [d60, List.take_of_length_le (by omega), e4]
theorem genOf_hdB {g : Nat} (h : g < 4294967296) : genOf (hdB g) = g := by
  obtain ⟨h1, h2, h3⟩ := hdB_parts h
  unfold genOf
  rw [h1, h2, h3]
  by_cases e : 0 < g
  · rw [if_pos ⟨e, rfl, rfl⟩]
  · rw [if_neg (fun h => e h.1)]; omega
/-- A header that is written over another one, and torn. -/
theorem genOf_torn {g g0 c : Nat} (hg : g < 4294967296) (h0 : g0 < 4294967296) (hc : c ≤ 64) : let s := (hdB g).take c ++ (hdB g0).drop c; genOf s = 0 ∨ genOf s = g ∨ genOf s = g0 := by
  intro s
  have hl : ((hdB g).take c).length = c := by rw [List.length_take, hdB_len]; omega
  by_cases h4 : 4 ≤ c
  · have : s.take 4 = (hdB g).take 4 := by
      show ((hdB g).take c ++ (hdB g0).drop c).take 4 = _
      rw [List.take_append_of_le_length (by omega), List.take_take, Nat.min_eq_left h4]
    unfold genOf
    rw [this, (hdB_parts hg).1]
    split
    · exact .inr (.inl rfl)
    · exact .inl rfl
  · have : s.drop 60 = (hdB g0).drop 60 := by
      show ((hdB g).take c ++ (hdB g0).drop c).drop 60 = _
      rw [List.drop_append, List.drop_of_length_le (by omega), List.nil_append, hl, List.drop_drop, show c + (60 - c) = 60 by omega]
    unfold genOf
    rw [this, (hdB_parts h0).2.2]
    split
    · rename_i h
      exact .inr (.inr h.2.2.symm)
    · exact .inl rfl
/-- A log block that is torn over an empty one is not complete, if its number has a last byte. -/
theorem torn_no {i flag c : Nat} {s : List UInt8} (h : s.length ≤ 58) (hi : i % 256 ≠ 0) (hc : c < 64) : ¬ okB i ((logB i flag s).take c ++ zb.drop c) := by
  rintro ⟨_, h2, _⟩
  have hl : (logB i flag s).length = 64 := logB_len h
  obtain ⟨t, ht⟩ : ∃ t, (logB i flag s).take c ++ zb.drop c = t ++ [0] := by
    refine ⟨(logB i flag s).take c ++ (List.replicate (63 - c) 0), ?_⟩
    rw [List.append_assoc]
    congr 1
    show (List.replicate 64 0).drop c = _
    rw [List.drop_replicate, show 64 - c = (63 - c) + 1 by omega, List.replicate_succ']
  have htl : t.length = 63 := by
    have := congrArg List.length ht
    rw [List.length_append, List.length_append, List.length_take, List.length_drop, zb_len] at this
    simp at this; omega
  unfold fAgain at h2
  rw [ht, List.drop_append_of_le_length (by omega)] at h2
  rw [List.take_of_length_le (by rw [List.length_append, List.length_drop]; simp; omega), beN_snoc] at h2
  have : (0 : UInt8).toNat = 0 := rfl
  omega
end Go.Proofs.YtdhnidmeeocajaaGreat

