/- A region over a line, as functions of what is done: acts up to the first error; what is there while the line lives, and when it was cut. Of no program. No condition. -/
import Derived.Test.YtdhnidmeeocajaaGreatRgA
import Derived.Test.YtdhnidmeeocajaaGreatLnL
namespace Go.Proofs.YtdhnidmeeocajaaGreat

/-- Acts up to the first error. -/
def LV.seq (L : LV) : List (DV → DV) → LV × Nat
  | [] => (L, 0)
  | F :: l => if L.code 0 = 0 then (L.act (F L.D)).seq l else (L.act (F L.D), L.code 0)
theorem LV.seq_cons (L : LV) (F : DV → DV) (l : List (DV → DV)) : L.seq (F :: l) = if L.code 0 = 0 then (L.act (F L.D)).seq l else (L.act (F L.D), L.code 0) := rfl
theorem LV.seq_append : ∀ (l m : List (DV → DV)) (L : LV), L.seq (l ++ m) = if (L.seq l).2 = 0 then (L.seq l).1.seq m else L.seq l
  | [], m, L => rfl
  | F :: l, m, L => by
    rw [List.cons_append, LV.seq_cons, LV.seq_cons]
    by_cases h : L.code 0 = 0
    · rw [if_pos h, if_pos h, seq_append l m]
    · rw [if_neg h, if_neg h, if_neg h]
theorem LV.code_or (L : LV) : L.code 0 = 0 ∨ L.code 0 = 8 := by
  unfold LV.code
  split
  · exact .inr rfl
  · exact .inl rfl
/-- One act more of a list. -/
theorem LV.seq_next (L : LV) (l : List (DV → DV)) (i : Nat) (h : i < l.length) (h0 : (L.seq (l.take i)).2 = 0) : L.seq (l.take (i + 1)) = ((L.seq (l.take i)).1.act (l[i] (L.seq (l.take i)).1.D), (L.seq (l.take i)).1.code 0) := by
  rw [List.take_add_one, List.getElem?_eq_getElem h, LV.seq_append, if_pos h0]
  show LV.seq _ [l[i]] = _
  rw [LV.seq_cons]
  split
  · rename_i e
    rw [e]
    rfl
  · rfl
/-- Behind an error nothing is done. -/
theorem LV.seq_stop (L : LV) (l : List (DV → DV)) (i : Nat) (h0 : (L.seq (l.take i)).2 ≠ 0) : L.seq l = L.seq (l.take i) := by
  conv => lhs; rw [← List.take_append_drop i l]
  rw [LV.seq_append, if_neg h0]
theorem LV.act_same (L : LV) (D' : DV) : (L.act D').P = L.P ∧ (L.act D').acts ≤ L.acts + 1 ∧ (L.act D').cut = L.cut ∧ (L.act D').cs = L.cs := by
  unfold LV.act
  split
  · exact ⟨rfl, Nat.le_succ _, rfl, rfl⟩
  split
  · exact ⟨rfl, Nat.le_refl _, rfl, rfl⟩
  split <;> exact ⟨rfl, Nat.le_refl _, rfl, rfl⟩
theorem LV.act_n (L : LV) (D' : DV) (h : D'.n = L.D.n) : (L.act D').D.n = L.D.n := by
  unfold LV.act
  split
  · rfl
  split
  · exact h
  split
  · exact h
  · rfl
theorem LV.seq_same : ∀ (l : List (DV → DV)) (L : LV), (∀ F ∈ l, ∀ D : DV, (F D).n = D.n) → (L.seq l).1.P = L.P ∧ (L.seq l).1.acts ≤ L.acts + l.length ∧ (L.seq l).1.cut = L.cut ∧ (L.seq l).1.cs = L.cs ∧ (L.seq l).1.D.n = L.D.n
  | [], L, _ => ⟨rfl, Nat.le_refl _, rfl, rfl, rfl⟩
  | F :: l, L, h => by
    have h1 := L.act_same (F L.D)
    have h2 := L.act_n (F L.D) (h F List.mem_cons_self L.D)
    rw [LV.seq_cons]
    split
    · have h3 := seq_same l (L.act (F L.D)) fun G hG => h G (List.mem_cons_of_mem _ hG)
      exact ⟨h3.1.trans h1.1, by rw [List.length_cons]; have := h3.2.1; have := h1.2.1; omega, h3.2.2.1.trans h1.2.2.1, h3.2.2.2.1.trans h1.2.2.2, h3.2.2.2.2.trans h2⟩
    · exact ⟨h1.1, by rw [List.length_cons]; have := h1.2.1; dsimp only; omega, h1.2.2.1, h1.2.2.2, h2⟩
/-- Acts of a line that none of them cuts. -/
theorem LV.seq_free : ∀ (l : List (DV → DV)) (L : LV), L.down = false → (∀ k, k < l.length → ((L.acts + k : Nat) : Int) ≠ L.cut) → L.seq l = ({ L with D := l.foldl (fun D F => F D) L.D, acts := L.acts + l.length }, 0)
  | [], L, _, _ => rfl
  | F :: l, L, hd, h => by
    have h0 : (L.acts : Int) ≠ L.cut := h 0 (by rw [List.length_cons]; omega)
    rw [LV.seq_cons, if_pos (LV.code_live hd h0 0), LV.act_live _ hd h0]
    rw [seq_free l { L.count with D := F L.D } hd fun k hk => by
      have := h (k + 1) (by rw [List.length_cons]; omega)
      show ((L.acts + 1 + k : Nat) : Int) ≠ L.cut
      rw [Nat.add_assoc, Nat.add_comm 1 k]; exact this]
    show (_, _) = (_, _)
    rw [List.length_cons, List.foldl_cons]
    congr 2
    show L.acts + 1 + l.length = _
    omega

/-- A block is written. -/
def wrD (p : Nat) (s : List UInt8) : DV → DV := fun D => D.writeTo (p : Int) s
def wrs (p : Nat) (l : List (List UInt8)) : List (DV → DV) := l.mapIdx fun k s => wrD (p + k) s
theorem wrs_len (p : Nat) (l : List (List UInt8)) : (wrs p l).length = l.length := by unfold wrs; rw [List.length_mapIdx]
theorem wrs_cons (p : Nat) (s : List UInt8) (l : List (List UInt8)) : wrs p (s :: l) = wrD p s :: wrs (p + 1) l := by
  unfold wrs
  rw [List.mapIdx_cons]
  congr 1
  congr 1
  funext k s
  rw [show p + (k + 1) = p + 1 + k by omega]
theorem wrs_at (p : Nat) (l : List (List UInt8)) (k : Nat) (h : k < (wrs p l).length) : (wrs p l)[k] = wrD (p + k) (l[k]'(by rw [wrs_len] at h; exact h)) := List.getElem_mapIdx
theorem wrs_n (p : Nat) (l : List (List UInt8)) : ∀ F ∈ wrs p l, ∀ D : DV, (F D).n = D.n := by
  intro F hF D
  obtain ⟨k, hk, rfl⟩ := List.getElem_of_mem hF
  rw [wrs_at]
  exact writeTo_n _ _ _
theorem padB_full {s : List UInt8} (h : s.length = 64) : padB s = s := by
  unfold padB
  rw [h, Nat.sub_self]
  exact List.append_nil s
theorem writeE_ok {D : DV} {q : Int} {s : List UInt8} (h0 : 0 ≤ q) (hp : q < D.n) (hs : s.length ≤ 64) : D.writeE q s = 0 := by
  have hb : D.bad q = false := decide_eq_false (by rintro (h | h) <;> omega)
  unfold DV.writeE
  rw [hb, if_neg Bool.false_ne_true, if_neg (by omega)]
theorem wrD_eq {D : DV} {p : Nat} {s : List UInt8} (hp : p < D.n) (hs : s.length ≤ 64) : wrD p s D = D.write p s := by
  unfold wrD DV.writeTo
  rw [if_pos (writeE_ok (by omega) (by omega) hs)]
  rfl

/-- A region while its line lives: the log blocks A were written, the first fc of them are firm, the header has the generation g. -/
structure Live (D : DV) (at_ n : Nat) (A : List (List UInt8)) (fc g : Nat) : Prop where
  ok : D.ok
  inn : at_ + n ≤ D.n
  len : A.length + 1 ≤ n
  le : fc ≤ A.length
  isB : ∀ j s, A[j]? = some s → ∃ flag p, p.length ≤ 58 ∧ s = logB (j + 1) flag p
  gl : g < 4294967296
  hF : D.F at_ = hdB g
  hX : D.X at_ = none
  fF : ∀ j s, j < fc → A[j]? = some s → D.F (at_ + 1 + j) = s
  fX : ∀ j, j < fc → D.X (at_ + 1 + j) = none
  wF : ∀ j, fc ≤ j → 1 + j < n → D.F (at_ + 1 + j) = zb
  wX : ∀ j s, fc ≤ j → A[j]? = some s → D.X (at_ + 1 + j) = some s
  rX : ∀ j, A.length ≤ j → 1 + j < n → D.X (at_ + 1 + j) = none
/-- A region when its line was cut. -/
structure Dead (D : DV) (at_ n : Nat) (A : List (List UInt8)) (fc : Nat) (G : Nat → Prop) : Prop where
  ok : D.ok
  inn : at_ + n ≤ D.n
  len : A.length + 1 ≤ n
  X : ∀ k, D.X k = none
  gen : G (genOf (D.F at_))
  fF : ∀ j s, j < fc → A[j]? = some s → D.F (at_ + 1 + j) = s
  any : ∀ j, 1 + j < n → A[j]? = some (D.F (at_ + 1 + j)) ∨ ¬ okB (j + 1) (D.F (at_ + 1 + j))
section
variable {D : DV} {at_ n : Nat} {A : List (List UInt8)} {fc g : Nat} {G : Nat → Prop}
theorem Live.s64 (h : Live D at_ n A fc g) {j : Nat} {s : List UInt8} (hj : A[j]? = some s) : s.length = 64 := by
  obtain ⟨f, p, hp, rfl⟩ := h.isB j s hj
  exact logB_len hp
theorem Live.write (h : Live D at_ n A fc g) (hn : A.length + 1 < n) {flag : Nat} {p : List UInt8} (hp : p.length ≤ 58) : Live (wrD (at_ + 1 + A.length) (logB (A.length + 1) flag p) D) at_ n (A ++ [logB (A.length + 1) flag p]) fc g := by
  have hl : (logB (A.length + 1) flag p).length = 64 := logB_len hp
  have hi := h.inn
  rw [wrD_eq (by omega) (by omega)]
  have hat : ∀ j s, (A ++ [logB (A.length + 1) flag p])[j]? = some s → A[j]? = some s ∨ (j = A.length ∧ s = logB (A.length + 1) flag p) := fun j s e => by
    by_cases hj : j < A.length
    · rw [List.getElem?_append_left hj] at e; exact .inl e
    · rw [List.getElem?_append_right (by omega)] at e
      have hz : j - A.length = 0 := by
        have := (List.getElem?_eq_some_iff.1 e).1
        simp at this; omega
      rw [hz] at e
      exact .inr ⟨by omega, (Option.some.inj e).symm⟩
  refine ⟨h.ok.write (by omega) (by omega), hi, by rw [List.length_append]; simp; omega, by rw [List.length_append]; have := h.le; omega, fun j s e => ?_, h.gl, h.hF, ?_, fun j s hj e => ?_, fun j hj => ?_, h.wF, fun j s hj e => ?_, fun j hj hn => ?_⟩
  · rcases hat j s e with e | ⟨rfl, rfl⟩
    · exact h.isB j s e
    · exact ⟨flag, p, hp, rfl⟩
  · show (if at_ = at_ + 1 + A.length then _ else D.X at_) = none
    rw [if_neg (by omega)]; exact h.hX
  · rcases hat j s e with e | ⟨rfl, rfl⟩
    · exact h.fF j s hj e
    · have := h.le; omega
  · show (if at_ + 1 + j = at_ + 1 + A.length then _ else D.X (at_ + 1 + j)) = none
    rw [if_neg (by have := h.le; omega)]; exact h.fX j hj
  · show (if at_ + 1 + j = at_ + 1 + A.length then some (padB _) else D.X (at_ + 1 + j)) = some s
    rcases hat j s e with e | ⟨rfl, rfl⟩
    · rw [if_neg (by have := (List.getElem?_eq_some_iff.1 e).1; omega)]; exact h.wX j s hj e
    · rw [if_pos rfl, padB_full hl]
  · rw [List.length_append] at hj
    simp at hj
    show (if at_ + 1 + j = at_ + 1 + A.length then _ else D.X (at_ + 1 + j)) = none
    rw [if_neg (by omega)]; exact h.rX j (by omega) hn
theorem Live.hread (h : Live D at_ n A fc g) : D.read at_ = hdB g := by unfold DV.read; rw [h.hX]; exact h.hF
theorem Live.aread (h : Live D at_ n A fc g) {j : Nat} {s : List UInt8} (hj : A[j]? = some s) : D.read (at_ + 1 + j) = s := by
  unfold DV.read
  by_cases e : j < fc
  · rw [h.fX j e]; exact h.fF j s e hj
  · rw [h.wX j s (by omega) hj]; rfl
theorem Live.zread (h : Live D at_ n A fc g) {j : Nat} (hj : A.length ≤ j) (hn : 1 + j < n) : D.read (at_ + 1 + j) = zb := by
  unfold DV.read
  rw [h.rX j hj hn]
  exact h.wF j (by have := h.le; omega) hn
theorem Live.flush (h : Live D at_ n A fc g) : Live D.flush at_ n A A.length g :=
  ⟨h.ok.flush, h.inn, h.len, Nat.le_refl _, h.isB, h.gl, h.hread, rfl, fun _ _ _ e => h.aread e, fun _ _ => rfl, fun _ hj hn => h.zread hj hn, fun j s hj e => by have := (List.getElem?_eq_some_iff.1 e).1; omega, fun _ _ _ => rfl⟩
theorem Live.sealed (h : Live D at_ n A fc g) {g' : Nat} (hg : g' < 4294967296) : Live (wrD at_ (hdB g') D).flush at_ n A A.length g' := by
  have hi := h.inn
  have hl := h.len
  rw [wrD_eq (by omega) (by rw [hdB_len]; omega)]
  have hr : ∀ k, k ≠ at_ → (D.write at_ (hdB g')).read k = D.read k := fun k hk => by
    show ((if k = at_ then _ else D.X k).getD (D.F k)) = _
    rw [if_neg hk]; rfl
  refine ⟨(h.ok.write (by omega) (by rw [hdB_len]; omega)).flush, hi, hl, Nat.le_refl _, h.isB, hg, ?_, rfl, fun j s _ e => (hr _ (by omega)).trans (h.aread e), fun _ _ => rfl, fun j hj hn => (hr _ (by omega)).trans (h.zread hj hn), fun j s hj e => by have := (List.getElem?_eq_some_iff.1 e).1; omega, fun _ _ _ => rfl⟩
  show ((if at_ = at_ then some (padB (hdB g')) else D.X at_).getD (D.F at_)) = _
  rw [if_pos rfl, padB_full (hdB_len _)]
  rfl
theorem rleft_none {k : Nat} (cs : List Int) (h : D.X k = none) : D.left cs k = D.F k := by unfold DV.left; rw [h]
theorem rleft_some {k : Nat} {s : List UInt8} (cs : List Int) (h : D.X k = some s) : ∃ c, c ≤ 64 ∧ D.left cs k = s.take c ++ (D.F k).drop c := by
  unfold DV.left
  rw [h]
  exact ⟨_, surv_le _ _, rfl⟩
theorem Live.logs_crash (h : Live D at_ n A fc g) (hn : n ≤ 256) (cs : List Int) : (∀ j s, j < fc → A[j]? = some s → (D.crash cs).F (at_ + 1 + j) = s) ∧ (∀ j, 1 + j < n → A[j]? = some ((D.crash cs).F (at_ + 1 + j)) ∨ ¬ okB (j + 1) ((D.crash cs).F (at_ + 1 + j))) := by
  refine ⟨fun j s hj e => ?_, fun j hj => ?_⟩
  · show D.left cs _ = s
    rw [rleft_none cs (h.fX j hj)]; exact h.fF j s hj e
  · show A[j]? = some (D.left cs _) ∨ ¬ okB (j + 1) (D.left cs _)
    by_cases hA : j < A.length
    · obtain ⟨s, hs⟩ : ∃ s, A[j]? = some s := ⟨_, List.getElem?_eq_getElem hA⟩
      by_cases hf : j < fc
      · rw [rleft_none cs (h.fX j hf), h.fF j s hf hs]; exact .inl hs
      · obtain ⟨c, hc, e⟩ := rleft_some cs (h.wX j s (by omega) hs)
        rw [e, h.wF j (by omega) hj]
        by_cases h64 : c = 64
        · subst h64
          rw [List.take_of_length_le (by rw [h.s64 hs]; omega), List.drop_of_length_le (by rw [zb_len]; omega), List.append_nil]
          exact .inl hs
        · obtain ⟨f, p, hp, rfl⟩ := h.isB j s hs
          exact .inr (torn_no hp (by omega) (by omega))
    · rw [rleft_none cs (h.rX j (by omega) hj), h.wF j (by have := h.le; omega) hj]
      exact .inr (zb_no (by omega))
theorem Live.crash (h : Live D at_ n A fc g) (hn : n ≤ 256) (cs : List Int) : Dead (D.crash cs) at_ n A fc (· = g) := by
  have h2 := h.logs_crash hn cs
  refine ⟨h.ok.crash cs, h.inn, h.len, fun _ => rfl, ?_, h2.1, h2.2⟩
  show genOf (D.left cs at_) = g
  rw [rleft_none cs h.hX, h.hF, genOf_hdB h.gl]
/-- A crash behind a header's Write. -/
theorem Live.torn (h : Live D at_ n A fc g) (hn : n ≤ 256) {g' : Nat} (hg : g' < 4294967296) (cs : List Int) : Dead ((wrD at_ (hdB g') D).crash cs) at_ n A fc (fun x => x = 0 ∨ x = g ∨ x = g') := by
  have hi := h.inn
  have hl := h.len
  rw [wrD_eq (by omega) (by rw [hdB_len]; omega)]
  have hX : ∀ k, k ≠ at_ → (D.write at_ (hdB g')).X k = D.X k := fun k hk => by
    show (if k = at_ then _ else D.X k) = _
    rw [if_neg hk]
  have key : Live { D.write at_ (hdB g') with X := fun k => if k = at_ then none else (D.write at_ (hdB g')).X k } at_ n A fc g := by
    have e : ({ D.write at_ (hdB g') with X := fun k => if k = at_ then none else (D.write at_ (hdB g')).X k } : DV) = D := by
      show DV.mk D.n D.F _ = D
      have : (fun k => if k = at_ then none else (D.write at_ (hdB g')).X k) = D.X := by
        funext k
        split
        · rename_i e; rw [e, h.hX]
        · rename_i e; exact hX k e
      rw [this]
    rw [e]; exact h
  have okw := h.ok.write (show at_ < D.n by omega) (s := hdB g') (by rw [hdB_len]; omega)
  -- what is left of each log block does not hang on how many of the others survive: any choice does
  have any : ∀ j, 1 + j < n → ∃ cs', (D.write at_ (hdB g')).left cs (at_ + 1 + j) = D.left cs' (at_ + 1 + j) ∨ False := fun j hj => by
    cases hx : D.X (at_ + 1 + j) with
    | none =>
      refine ⟨cs, .inl ?_⟩
      rw [rleft_none cs (by rw [hX _ (by omega)]; exact hx), rleft_none cs hx]
      rfl
    | some s =>
      obtain ⟨c, hc, e⟩ := rleft_some cs (show (D.write at_ (hdB g')).X (at_ + 1 + j) = some s by rw [hX _ (by omega)]; exact hx)
      refine ⟨[(c : Int)], .inl ?_⟩
      rw [e]
      unfold DV.left
      rw [hx]
      have hsv : surv [(c : Int)] (D.rank (at_ + 1 + j)) = c := by
        unfold surv
        simp [Nat.mod_one]
        omega
      rw [hsv]
      rfl
  refine ⟨okw.crash cs, hi, hl, fun _ => rfl, ?_, fun j s hj e => ?_, fun j hj => ?_⟩
  · show (fun x => x = 0 ∨ x = g ∨ x = g') (genOf ((D.write at_ (hdB g')).left cs at_))
    obtain ⟨c, hc, e⟩ := rleft_some cs (show (D.write at_ (hdB g')).X at_ = some (hdB g') by
      show (if at_ = at_ then some (padB (hdB g')) else _) = _
      rw [if_pos rfl, padB_full (hdB_len _)])
    have e2 : (D.write at_ (hdB g')).left cs at_ = (hdB g').take c ++ (hdB g).drop c := by rw [e]; show _ ++ (D.F at_).drop c = _; rw [h.hF]
    rw [e2]
    have := genOf_torn hg h.gl hc
    dsimp only at this ⊢
    omega
  · obtain ⟨cs', e1⟩ := any j (by have := (List.getElem?_eq_some_iff.1 e).1; omega)
    show (D.write at_ (hdB g')).left cs _ = s
    rw [e1.resolve_right id]
    exact (h.logs_crash hn cs').1 j s hj e
  · obtain ⟨cs', e1⟩ := any j hj
    show A[j]? = some ((D.write at_ (hdB g')).left cs _) ∨ ¬ okB (j + 1) ((D.write at_ (hdB g')).left cs _)
    rw [e1.resolve_right id]
    exact (h.logs_crash hn cs').2 j hj
theorem Dead.weaken (h : Dead D at_ n A fc G) {G' : Nat → Prop} (hG : ∀ x, G x → G' x) {fc' : Nat} (hf : fc' ≤ fc) : Dead D at_ n A fc' G' :=
  ⟨h.ok, h.inn, h.len, h.X, hG _ h.gen, fun j s hj e => h.fF j s (by omega) e, h.any⟩
theorem Dead.more (h : Dead D at_ n A fc G) {B : List (List UInt8)} (hl : (A ++ B).length + 1 ≤ n) (hf : fc ≤ A.length) : Dead D at_ n (A ++ B) fc G := by
  refine ⟨h.ok, h.inn, hl, h.X, h.gen, fun j s hj e => ?_, fun j hj => ?_⟩
  · rw [List.getElem?_append_left (by omega)] at e
    exact h.fF j s hj e
  · rcases h.any j hj with e | e
    · left
      rw [List.getElem?_append_left (List.getElem?_eq_some_iff.1 e).1]
      exact e
    · exact .inr e
end
/-- The log blocks, as they are read. -/
def DV.logs (D : DV) (at_ n : Nat) : List (List UInt8) := (List.range (n - 1)).map fun k => D.read (at_ + 1 + k)
theorem DV.logs_at (D : DV) (at_ n k : Nat) : (D.logs at_ n)[k]? = if k < n - 1 then some (D.read (at_ + 1 + k)) else none := by
  unfold DV.logs
  rw [List.getElem?_map]
  split
  · rename_i h
    rw [List.getElem?_range h]
    rfl
  · rw [List.getElem?_eq_none (by rw [List.length_range]; omega)]
    rfl
/-- What is read. -/
def DV.groups (D : DV) (at_ n : Nat) : List (List UInt8) := scan 1 [] (D.logs at_ n)
theorem Live.contents {D : DV} {at_ n fc g : Nat} {l : List (List UInt8)} (h : Live D at_ n (blksAll 1 l) fc g) (hn : n ≤ 65536) : genOf (D.read at_) = g ∧ D.groups at_ n = l := by
  refine ⟨by rw [h.hread, genOf_hdB h.gl], ?_⟩
  have hl := h.len
  rw [blksAll_len] at hl
  obtain ⟨m, h1, h2, h3⟩ := scan_all l 1 (D.logs at_ n) (by omega) (fun x hx => by
    obtain ⟨s, hs⟩ : ∃ s, (blksAll 1 l)[x]? = some s := ⟨_, List.getElem?_eq_getElem (by rw [blksAll_len]; exact hx)⟩
    exact ⟨s, by rw [DV.logs_at, if_pos (by omega), h.aread hs], .inl hs⟩) (fun c hc => by
    rw [DV.logs_at] at hc
    split at hc
    · rename_i hlt
      obtain rfl := Option.some.inj hc
      rw [h.zread (by rw [blksAll_len]; omega) (by omega)]
      exact zb_no (by omega)
    · cases hc)
  have := h3 l.length (Nat.le_refl _) (fun x hx => by
    rw [List.take_length] at hx
    obtain ⟨s, hs⟩ : ∃ s, (blksAll 1 l)[x]? = some s := ⟨_, List.getElem?_eq_getElem (by rw [blksAll_len]; exact hx)⟩
    rw [DV.logs_at, if_pos (by omega), h.aread hs, hs])
  unfold DV.groups
  rw [h2, List.take_of_length_le this]
theorem Dead.contents {D : DV} {at_ n fc : Nat} {G : Nat → Prop} {l : List (List UInt8)} (h : Dead D at_ n (blksAll 1 l) fc G) (hn : n ≤ 65536) : G (genOf (D.read at_)) ∧ ∃ m, m ≤ l.length ∧ D.groups at_ n = l.take m ∧ ∀ s, s ≤ l.length → nb (l.take s) ≤ fc → s ≤ m := by
  have hr : ∀ k, D.read k = D.F k := fun k => by unfold DV.read; rw [h.X k]; rfl
  refine ⟨by rw [hr]; exact h.gen, ?_⟩
  have hl := h.len
  rw [blksAll_len] at hl
  obtain ⟨m, h1, h2, h3⟩ := scan_all l 1 (D.logs at_ n) (by omega) (fun x hx => by
    refine ⟨D.F (at_ + 1 + x), by rw [DV.logs_at, if_pos (by omega), hr], ?_⟩
    rw [Nat.add_comm 1 x]
    exact h.any x (by omega)) (fun c hc => by
    rw [DV.logs_at] at hc
    split at hc
    · rename_i hlt
      obtain rfl := Option.some.inj hc
      rw [hr, Nat.add_comm 1 (nb l)]
      refine (h.any (nb l) (by omega)).resolve_left fun e => ?_
      have := (List.getElem?_eq_some_iff.1 e).1
      rw [blksAll_len] at this
      omega
    · cases hc)
  refine ⟨m, h1, h2, fun s hs hf => h3 s hs fun x hx => ?_⟩
  have := nb_take_le l s
  obtain ⟨c, hc⟩ : ∃ c, (blksAll 1 l)[x]? = some c := ⟨_, List.getElem?_eq_getElem (by rw [blksAll_len]; omega)⟩
  rw [DV.logs_at, if_pos (by omega), hr, h.fF x c (by omega) hc, hc]

/-- Blocks that are written one behind the other: all of them, or the line was cut. -/
theorem Live.writes {at_ n fc g : Nat} (hn : n ≤ 256) : ∀ (B A : List (List UInt8)) (L : LV), L.down = false → Live L.D at_ n A fc g → A.length + B.length + 1 ≤ n → (∀ j s, B[j]? = some s → ∃ flag p, p.length ≤ 58 ∧ s = logB (A.length + j + 1) flag p) →
    ((L.seq (wrs (at_ + 1 + A.length) B)).2 = 0 ∧ (L.seq (wrs (at_ + 1 + A.length) B)).1.down = false ∧ Live (L.seq (wrs (at_ + 1 + A.length) B)).1.D at_ n (A ++ B) fc g) ∨
    ((L.seq (wrs (at_ + 1 + A.length) B)).2 = 8 ∧ (L.seq (wrs (at_ + 1 + A.length) B)).1.down = true ∧ Dead (L.seq (wrs (at_ + 1 + A.length) B)).1.D at_ n (A ++ B) fc (· = g)) := by
  intro B
  induction B with
  | nil =>
    intro A L hd h _ _
    rw [List.append_nil]
    exact .inl ⟨rfl, hd, h⟩
  | cons s B ih =>
    intro A L hd h hl hB
    rw [List.length_cons] at hl
    obtain ⟨flag, p, hp, rfl⟩ := hB 0 _ rfl
    rw [Nat.add_zero] at hB ⊢
    have hw := h.write (by omega) (flag := flag) hp
    rw [wrs_cons, LV.seq_cons]
    by_cases hc : (L.acts : Int) = L.cut
    · right
      rw [if_neg (by rw [LV.code_cut hc]; decide), LV.code_cut hc, LV.act_cut _ hd hc]
      refine ⟨rfl, ?_⟩
      have hlen : (A ++ logB (A.length + 1) flag p :: B).length + 1 ≤ n := by rw [List.length_append, List.length_cons]; omega
      split
      · refine ⟨rfl, ?_⟩
        have := (hw.crash hn L.cs).more (B := B) (by rw [List.length_append, List.length_append]; simp; omega) (by rw [List.length_append]; have := h.le; omega)
        rw [List.append_assoc] at this
        exact this
      · exact ⟨rfl, (h.crash hn L.cs).more hlen h.le⟩
    · rw [if_pos (LV.code_live hd hc 0), LV.act_live _ hd hc]
      have hlA : (A ++ [logB (A.length + 1) flag p]).length = A.length + 1 := by rw [List.length_append]; rfl
      have := ih (A ++ [logB (A.length + 1) flag p]) { L.count with D := wrD (at_ + 1 + A.length) (logB (A.length + 1) flag p) L.D } hd hw (by rw [hlA]; omega) (fun j s e => by
        obtain ⟨f, q, hq, e2⟩ := hB (j + 1) s e
        exact ⟨f, q, hq, by rw [e2, hlA, show A.length + (j + 1) = A.length + 1 + j by omega]⟩)
      rw [hlA, List.append_assoc, show at_ + 1 + (A.length + 1) = at_ + 1 + A.length + 1 by omega] at this
      exact this
/-- Blocks one behind the other, written. -/
theorem writes_X : ∀ (B : List (List UInt8)) (p : Nat) (D : DV), D.ok → p + B.length ≤ D.n → (∀ s ∈ B, s.length ≤ 64) →
    ((wrs p B).foldl (fun D F => F D) D).ok ∧ ((wrs p B).foldl (fun D F => F D) D).n = D.n ∧ ((wrs p B).foldl (fun D F => F D) D).F = D.F ∧
    ∀ k, ((wrs p B).foldl (fun D F => F D) D).X k = if p ≤ k ∧ k < p + B.length then some (padB (B.getD (k - p) [])) else D.X k := by
  intro B
  induction B with
  | nil =>
    intro p D h _ _
    refine ⟨h, rfl, rfl, fun k => ?_⟩
    rw [if_neg (by rw [List.length_nil]; omega)]
    rfl
  | cons s B ih =>
    intro p D h hp hs
    rw [List.length_cons] at hp
    have hs0 := hs s List.mem_cons_self
    rw [wrs_cons, List.foldl_cons, wrD_eq (by omega) hs0]
    obtain ⟨h1, h2, h3, h4⟩ := ih (p + 1) (D.write p s) (h.write (by omega) hs0) (by show _ ≤ D.n; omega) fun t ht => hs t (List.mem_cons_of_mem _ ht)
    refine ⟨h1, h2, h3, fun k => ?_⟩
    rw [h4 k, List.length_cons]
    by_cases e : k = p
    · subst e
      rw [if_neg (by omega), if_pos (by omega), Nat.sub_self]
      show (if k = k then _ else _) = _
      rw [if_pos rfl]
      rfl
    · by_cases e2 : p + 1 ≤ k ∧ k < p + 1 + B.length
      · rw [if_pos e2, if_pos (by omega), show k - p = (k - (p + 1)) + 1 by omega, List.getD_cons_succ]
      · rw [if_neg e2, if_neg (by omega)]
        show (if k = p then _ else _) = _
        rw [if_neg e]
/-- The acts of a Format. -/
def fmtA (at_ n : Nat) : List (DV → DV) := wrs at_ (List.replicate n []) ++ [DV.flush]
theorem fmtA_len (at_ n : Nat) : (fmtA at_ n).length = n + 1 := by unfold fmtA; rw [List.length_append, wrs_len, List.length_replicate]; rfl
theorem fmtA_n (at_ n : Nat) : ∀ F ∈ fmtA at_ n, ∀ D : DV, (F D).n = D.n := by
  intro F hF D
  rcases List.mem_append.1 hF with h | h
  · exact wrs_n _ _ F h D
  · obtain rfl := List.mem_singleton.1 h
    rfl
/-- Behind a Format there is an empty region, and all else reads as it did. -/
theorem fmt_live {D : DV} {at_ n : Nat} (h : D.ok) (hi : at_ + n ≤ D.n) (hn : 2 ≤ n) : Live ((fmtA at_ n).foldl (fun D F => F D) D) at_ n [] 0 0 ∧ ((fmtA at_ n).foldl (fun D F => F D) D).n = D.n ∧ (∀ k, ((fmtA at_ n).foldl (fun D F => F D) D).X k = none) ∧
    ∀ k, ((fmtA at_ n).foldl (fun D F => F D) D).read k = if at_ ≤ k ∧ k < at_ + n then zb else D.read k := by
  obtain ⟨h1, h2, h3, h4⟩ := writes_X (List.replicate n []) at_ D h (by rw [List.length_replicate]; exact hi) (fun s hs => by rw [(List.mem_replicate.1 hs).2]; exact Nat.zero_le _)
  unfold fmtA
  rw [List.foldl_append]
  generalize hD : (wrs at_ (List.replicate n [])).foldl (fun D F => F D) D = D1 at h1 h2 h3 h4 ⊢
  rw [List.length_replicate] at h4
  show Live D1.flush at_ n [] 0 0 ∧ D1.flush.n = D.n ∧ (∀ k, D1.flush.X k = none) ∧ ∀ k, D1.flush.read k = _
  have hz : ∀ m, padB ((List.replicate n ([] : List UInt8)).getD m []) = zb := fun m => by
    have : (List.replicate n ([] : List UInt8)).getD m [] = [] := by
      rw [List.getD_eq_getElem?_getD, List.getElem?_replicate]
      split <;> rfl
    rw [this]; rfl
  have hr : ∀ k, D1.read k = if at_ ≤ k ∧ k < at_ + n then zb else D.read k := fun k => by
    unfold DV.read
    rw [h4 k, h3]
    split
    · rw [hz]; rfl
    · rfl
  refine ⟨⟨h1.flush, by show _ ≤ D1.n; omega, by simp; omega, Nat.le_refl _, (fun j s e => by cases e), by decide, ?_, rfl, (fun j s hj => by omega), fun _ _ => rfl, fun j _ hj => ?_, (fun j s _ e => by cases e), fun _ _ _ => rfl⟩, h2, fun _ => rfl, hr⟩
  · show D1.read at_ = _
    rw [hr, if_pos (by omega), hdB_zero]
  · show D1.read _ = _
    rw [hr, if_pos (by omega)]
end Go.Proofs.YtdhnidmeeocajaaGreat

