/- A device with two regions of which one is used: a Checkpoint makes the other one used, a Commit appends to it; what is told when either is cut. Of no program. No condition. -/
import Derived.Test.YtddjkbpgaenpgaaGreatWlA
namespace Go.Proofs.YtddjkbpgaenpgaaGreat

/-- At rest: the region of the side s is used, with the generation g and the groups gs. -/
structure Rest (n : Nat) (D : DV) (s g : Nat) (gs : List (List UInt8)) : Prop where
  ok : D.ok
  n2 : 2 ≤ n
  n256 : n ≤ 256
  inn : 2 * n ≤ D.n
  X : ∀ k, D.X k = none
  s1 : s = 0 ∨ s = 1
  gen : genOf (D.F (s * n)) = g
  grp : D.groups (s * n) n = gs
  pos : 0 < g
  lt : g < 4294967296
  qt : Qt (D.F ((1 - s) * n)) g
/-- In use: the region R of the side s is written, all is firm. -/
structure Cm (n : Nat) (L : LV) (R : RV) (s g : Nat) (gs : List (List UInt8)) : Prop where
  st : StR R L gs (nb gs) g
  at_ : R.at_ = s * n
  rn : R.n = n
  n2 : 2 ≤ n
  inn : 2 * n ≤ L.D.n
  X : ∀ k, L.D.X k = none
  s1 : s = 0 ∨ s = 1
  pos : 0 < g
  qt : Qt (L.D.F ((1 - s) * n)) g
/-- While the region R of the side s is made: the other one is used. -/
structure Md (n : Nat) (L : LV) (R : RV) (s : Nat) (rs : List (List UInt8)) (fc g : Nat) (gs : List (List UInt8)) : Prop where
  st : StR R L rs fc 0
  at_ : R.at_ = s * n
  rn : R.n = n
  n2 : 2 ≤ n
  inn : 2 * n ≤ L.D.n
  X : ∀ k, (1 - s) * n ≤ k → k < (1 - s) * n + n → L.D.X k = none
  Xo : ∀ k, ¬ (s * n < k ∧ k < s * n + n) → L.D.X k = none
  s1 : s = 0 ∨ s = 1
  gen : genOf (L.D.F ((1 - s) * n)) = g
  grp : L.D.groups ((1 - s) * n) n = gs
  pos : 0 < g
  lt : g < 4294967296
section
variable {n : Nat} {L : LV} {D : DV} {R : RV} {s g fc : Nat} {gs rs : List (List UInt8)}
theorem side_lt (hs : s = 0 ∨ s = 1) (hn : 2 ≤ n) (hi : 2 * n ≤ D.n) : s * n + n ≤ D.n ∧ (1 - s) * n + n ≤ D.n := by
  rcases hs with rfl | rfl <;> omega
theorem side_far (hs : s = 0 ∨ s = 1) (k : Nat) (h1 : s * n ≤ k) (h2 : k < s * n + n) (h3 : (1 - s) * n ≤ k) (h4 : k < (1 - s) * n + n) : False := by
  rcases hs with rfl | rfl <;> omega
theorem side_two (hs : s = 0 ∨ s = 1) : 1 - (1 - s) = s ∧ (1 - s = 0 ∨ 1 - s = 1) := by
  rcases hs with rfl | rfl
  · exact ⟨rfl, .inr rfl⟩
  · exact ⟨rfl, .inl rfl⟩
theorem DV.crash_rest (h : ∀ k, D.X k = none) (cs : List Int) : D.crash cs = D := by
  have e : D.left cs = D.F := funext fun k => rleft_none cs (h k)
  have e2 : D.X = fun _ => none := funext h
  unfold DV.crash
  rw [e]
  cases D with
  | mk n F X => rw [show X = fun _ => none from e2]
/-- What Open reads of the two regions. -/
theorem Rest.reads (h : Rest n D s g gs) : genOf (D.read (s * n)) = g ∧ genOf (D.read ((1 - s) * n)) < g := by
  rw [DV.read_none (h.X _), DV.read_none (h.X _)]
  exact ⟨h.gen, h.qt.lt⟩
theorem Cm.rest (h : Cm n L R s g gs) : Rest n L.D s g gs := by
  have hc := h.st.inv.contents (by have := h.st.n256; omega)
  rw [h.at_, h.rn] at hc
  exact ⟨h.st.inv.ok, h.n2, by rw [← h.rn]; exact h.st.n256, h.inn, h.X, h.s1, by rw [← DV.read_none (h.X _)]; exact hc.1, hc.2, h.pos, h.st.inv.gl, h.qt⟩
theorem Rest.blow (h : Rest n L.D s g gs) : Rest n L.blow.D s g gs := by
  unfold LV.blow
  split
  · exact h
  · show Rest n (L.D.crash L.cs) s g gs
    rw [DV.crash_rest h.X]; exact h
/-- A Format of the other region. -/
theorem Rest.fmt (h : Rest n L.D s g gs) (hd : L.down = false) :
    ((L.seq (fmtA ((1 - s) * n) n)).2 = 0 ∧ Md n (L.seq (fmtA ((1 - s) * n) n)).1 ⟨(1 - s) * n, n, 0, false⟩ (1 - s) [] 0 g gs) ∨
    ((L.seq (fmtA ((1 - s) * n) n)).2 = 8 ∧ (L.seq (fmtA ((1 - s) * n) n)).1.down = true ∧ Rest n (L.seq (fmtA ((1 - s) * n) n)).1.D s g gs) := by
  have hsd := side_lt h.s1 h.n2 h.inn
  have hs2 := side_two h.s1
  obtain ⟨A, hA⟩ : ∃ A, (1 - s) * n = A := ⟨_, rfl⟩
  have ho : OutD (fun k => A ≤ k ∧ k < A + n) L.D (L.seq (fmtA A n)).1.D := OutD.seq L (fmtA_in fun k h1 h2 => ⟨h1, h2⟩)
  have hz : Hz A (L.D.F A) (L.seq (fmtA A n)).1.D := Hz.fmt (h.ok.fl A) L (Hz.start (h.X A))
  have hok : (L.seq (fmtA A n)).1.D.ok := LV.seq_inv DV.ok (fun D cs h => h.crash cs) _ L ok_fmtA h.ok
  have hn := (LV.seq_same (fmtA A n) L (fmtA_n A n)).2.2.2.2
  have hfar : ∀ k, s * n ≤ k → k < s * n + n → ¬ (A ≤ k ∧ k < A + n) := fun k h1 h2 h3 => side_far h.s1 k h1 h2 (by omega) (by omega)
  have hg := OutD.groups ho hfar (fun k _ _ => h.X k)
  have hf := (ho (s * n) (hfar _ (Nat.le_refl _) (by have := h.n2; omega)) (h.X _)).2
  have hq := h.qt
  rw [hA] at hsd hq ⊢
  by_cases hc : (L.seq (fmtA A n)).2 = 0
  · left
    have hz := LV.seq_zero _ L hd hc
    obtain ⟨l1, l2, l3, l4⟩ := fmt_live h.ok hsd.2 h.n2
    refine ⟨hc, ⟨rfl, ?_, rfl, h.n256, ?_⟩, hA.symm, rfl, h.n2, by rw [hn]; exact h.inn, fun k _ _ => ?_, fun k _ => ?_, hs2.2, ?_, ?_, h.pos, h.lt⟩
    · rw [hz]; exact hd
    · rw [hz]; exact l1
    · rw [hz]; exact l3 k
    · rw [hz]; exact l3 k
    · rw [hs2.1, hf]; exact h.gen
    · rw [hs2.1, hg]; exact h.grp
  · right
    obtain ⟨e1, e2, e3⟩ := LV.seq_eight _ L hd hc
    refine ⟨e1, e2, hok, h.n2, h.n256, by rw [hn]; exact h.inn, e3, h.s1, by rw [hf]; exact h.gen, by rw [hg]; exact h.grp, h.pos, h.lt, ?_⟩
    rw [hA]
    obtain ⟨⟨c, hc, e⟩, _⟩ := hz
    rw [e]
    exact hq.tear hc
/-- A region that is cut while no header is written: the header is as it was. -/
theorem head_kept {l : List (DV → DV)} (hl : ∀ F ∈ l, ∀ D, OutD (fun k => s * n < k ∧ k < s * n + n) D (F D)) (h : Live L.D (s * n) n (blksAll 1 rs) fc g) : (L.seq l).1.D.F (s * n) = hdB g :=
  ((OutD.seq L hl) (s * n) (by omega) h.hX).2.trans h.hF
/-- What is appended to the region that is made. -/
theorem Md.acts (h : Md n L R s rs fc g gs) {l : List (DV → DV)} (hl : ∀ F ∈ l, ∀ D, OutD (fun k => s * n < k ∧ k < s * n + n) D (F D)) (hk : ∀ F ∈ l, ∀ D : DV, D.ok → (F D).ok) (hln : ∀ F ∈ l, ∀ D : DV, (F D).n = D.n) :
    ((L.seq l).2 = 0 → ∀ R' rs' fc', StR R' (L.seq l).1 rs' fc' 0 → R'.at_ = R.at_ → R'.n = R.n → Md n (L.seq l).1 R' s rs' fc' g gs) ∧
    ((L.seq l).2 ≠ 0 → (L.seq l).1.down = true ∧ Rest n (L.seq l).1.D (1 - s) g gs) := by
  have hs2 := side_two h.s1
  have ho := OutD.seq L hl
  have hn := (LV.seq_same l L hln).2.2.2.2
  have hfar : ∀ k, (1 - s) * n ≤ k → k < (1 - s) * n + n → ¬ (s * n < k ∧ k < s * n + n) := fun k h1 h2 h3 => side_far h.s1 k (by omega) (by omega) h1 h2
  have hg := OutD.groups ho hfar h.X
  have hf := ho ((1 - s) * n) (hfar _ (Nat.le_refl _) (by have := h.n2; omega)) (h.X _ (Nat.le_refl _) (by have := h.n2; omega))
  constructor
  · intro _ R' rs' fc' hst ha hrn
    exact ⟨hst, ha.trans h.at_, hrn.trans h.rn, h.n2, by rw [hn]; exact h.inn, fun k h1 h2 => (ho k (hfar k h1 h2) (h.X k h1 h2)).1, fun k hk => (ho k hk (h.Xo k hk)).1, h.s1, by rw [hf.2]; exact h.gen, by rw [hg]; exact h.grp, h.pos, h.lt⟩
  · intro hc
    obtain ⟨_, e2, e3⟩ := LV.seq_eight l L h.st.live hc
    have hh := h.st.inv
    rw [h.at_, h.rn] at hh
    refine ⟨e2, LV.seq_inv DV.ok (fun D cs h => h.crash cs) _ L hk h.st.inv.ok, h.n2, by rw [← h.rn]; exact h.st.n256, by rw [hn]; exact h.inn, e3, hs2.2, by rw [hf.2]; exact h.gen, by rw [hg]; exact h.grp, h.pos, h.lt, ?_⟩
    rw [hs2.1, head_kept hl hh, hdB_zero]
    exact Qt.zer h.pos
theorem ap_in (hR : R.at_ = s * n) (hn : R.n = n) {t : List UInt8} (hf : needs t.length ≤ R.left) : ∀ F ∈ wrs (R.at_ + 1 + R.used) (blks (R.used + 1) t), ∀ D, OutD (fun k => s * n < k ∧ k < s * n + n) D (F D) :=
  OutD.wrs fun k h1 h2 => by
    rw [blks_len] at h2
    unfold RV.left at hf
    omega
theorem fl_in (B : Nat → Prop) : ∀ F ∈ [DV.flush], ∀ D, OutD B D (F D) := fun F hF D => by rw [List.mem_singleton.1 hF]; exact OutD.flush B D
theorem fl_ok : ∀ F ∈ [DV.flush], ∀ D : DV, D.ok → (F D).ok := fun F hF D h => by rw [List.mem_singleton.1 hF]; exact h.flush
theorem fl_n : ∀ F ∈ [DV.flush], ∀ D : DV, (F D).n = D.n := fun F hF D => by rw [List.mem_singleton.1 hF]; rfl
theorem apR_seq (hb : R.bad = false) {t : List UInt8} (hf : needs t.length ≤ R.left) : (apR R L t).2.1 = (L.seq (wrs (R.at_ + 1 + R.used) (blks (R.used + 1) t))).1 ∧ (apR R L t).2.2 = (L.seq (wrs (R.at_ + 1 + R.used) (blks (R.used + 1) t))).2 := by
  unfold apR
  rw [hb, if_neg Bool.false_ne_true, if_neg (by omega)]
  split
  · rename_i e; exact ⟨rfl, e.symm⟩
  · exact ⟨rfl, rfl⟩
theorem flR_seq (hb : R.bad = false) : (flR R L).2.1 = (L.seq [DV.flush]).1 ∧ (flR R L).2.2 = (L.seq [DV.flush]).2 := by
  unfold flR
  rw [hb, if_neg Bool.false_ne_true]
  exact ⟨rfl, rfl⟩
theorem slR_seq (hb : R.bad = false) {q : Nat} (hq : q ≠ 0) : (slR R L q).2.1 = (L.seq [wrD R.at_ (hdB q), DV.flush]).1 ∧ (slR R L q).2.2 = (L.seq [wrD R.at_ (hdB q), DV.flush]).2 := by
  unfold slR
  rw [hb, if_neg hq, if_neg Bool.false_ne_true]
  exact ⟨rfl, rfl⟩
theorem Md.ap (h : Md n L R s rs fc g gs) {t : List UInt8} (hf : needs t.length ≤ R.left) :
    ((apR R L t).2.2 = 0 ∧ Md n (apR R L t).2.1 (apR R L t).1 s (rs ++ [t]) fc g gs) ∨ ((apR R L t).2.2 = 8 ∧ (apR R L t).2.1.down = true ∧ Rest n (apR R L t).2.1.D (1 - s) g gs) := by
  obtain ⟨q1, q2⟩ := h.acts (ap_in h.at_ h.rn hf) ok_wrs (wrs_n _ _)
  obtain ⟨e1, e2⟩ := apR_seq (L := L) h.st.bad hf
  rcases apR_st h.st t with ⟨h1, _⟩ | ⟨_, L', h1, h2, h3⟩ | ⟨_, L', h1, h2, h3⟩
  · omega
  · left
    rw [h1] at e2 ⊢
    subst h2
    exact ⟨rfl, q1 e2.symm _ _ _ h3 rfl rfl⟩
  · right
    have e2' := e2
    have e1' := e1
    rw [h1] at e1' e2' ⊢
    have e1' : L' = _ := e1'
    have e2' : 8 = _ := e2'
    subst e1'
    have := q2 (by rw [← e2']; exact (show (8 : Nat) ≠ 0 by decide))
    exact ⟨rfl, this⟩
theorem Md.fl (h : Md n L R s rs fc g gs) :
    ((flR R L).2.2 = 0 ∧ Md n (flR R L).2.1 (flR R L).1 s rs (nb rs) g gs ∧ ∀ k, (flR R L).2.1.D.X k = none) ∨ ((flR R L).2.2 = 8 ∧ (flR R L).2.1.down = true ∧ Rest n (flR R L).2.1.D (1 - s) g gs) := by
  obtain ⟨q1, q2⟩ := h.acts (fl_in _) fl_ok fl_n
  obtain ⟨e1, e2⟩ := flR_seq (L := L) h.st.bad
  rcases flR_st h.st with ⟨L', h1, h2, h3⟩ | ⟨L', h1, h2, h3⟩
  · left
    rw [h1] at e2 ⊢
    subst h2
    refine ⟨rfl, q1 e2.symm _ _ _ h3 rfl rfl, fun k => ?_⟩
    rw [LV.seq_zero _ L h.st.live e2.symm]
    rfl
  · right
    rw [h1] at e1 e2 ⊢
    have e1 : L' = _ := e1
    have e2 : 8 = _ := e2
    subst e1
    have := q2 (by rw [← e2]; exact (show (8 : Nat) ≠ 0 by decide))
    exact ⟨rfl, this⟩
/-- The header, behind a Seal that was cut. -/
theorem seal_head {p : Nat} (L : LV) (hd : L.down = false) (hF : L.D.F p = zb) (hX : L.D.X p = none) (hp : p < L.D.n) (q : Nat) : ∃ c, c ≤ 64 ∧ (L.seq [wrD p (hdB q), DV.flush]).1.D.F p = (hdB q).take c ++ zb.drop c := by
  have hw := wrD_eq (D := L.D) (s := hdB q) hp (by rw [hdB_len]; omega)
  have hX1 : (L.D.write p (hdB q)).X p = some (hdB q) := by
    show (if p = p then some (padB (hdB q)) else _) = _
    rw [if_pos rfl, padB_full (hdB_len _)]
  have hcr : ∀ cs, ∃ c, c ≤ 64 ∧ (L.D.write p (hdB q)).left cs p = (hdB q).take c ++ zb.drop c := fun cs => by
    obtain ⟨c, hc, e⟩ := rleft_some cs hX1
    exact ⟨c, hc, by rw [e]; show _ ++ (L.D.F p).drop c = _; rw [hF]⟩
  have hfl : (L.D.write p (hdB q)).read p = hdB q := by unfold DV.read; rw [hX1]; rfl
  have h64 : (hdB q).take 64 ++ zb.drop 64 = hdB q := by rw [List.take_of_length_le (by rw [hdB_len]; omega)]; exact List.append_nil _
  rw [LV.seq_cons]
  by_cases hc : (L.acts : Int) = L.cut
  · rw [if_neg (by rw [LV.code_cut hc]; decide), LV.act_cut _ hd hc, hw]
    split
    · exact hcr L.cs
    · exact ⟨0, by omega, by show L.D.left L.cs p = _; rw [rleft_none L.cs hX, hF]; rfl⟩
  · rw [if_pos (LV.code_live hd hc 0), LV.act_live _ hd hc, hw]
    obtain ⟨L', hL'⟩ : ∃ L' : LV, ({ L.count with D := L.D.write p (hdB q) } : LV) = L' := ⟨_, rfl⟩
    have hD : L'.D = L.D.write p (hdB q) := by rw [← hL']
    have hd' : L'.down = false := by rw [← hL']; exact hd
    rw [hL', LV.seq_cons]
    by_cases hc2 : (L'.acts : Int) = L'.cut
    · rw [if_neg (by rw [LV.code_cut hc2]; decide), LV.act_cut _ hd' hc2]
      split
      · refine ⟨64, by omega, ?_⟩
        show L'.D.flush.left L'.cs p = _
        rw [rleft_none L'.cs (show L'.D.flush.X p = none from rfl), h64]
        show L'.D.read p = _
        rw [hD, hfl]
      · show ∃ c, c ≤ 64 ∧ L'.D.left L'.cs p = _
        rw [hD]; exact hcr L'.cs
    · rw [if_pos (LV.code_live hd' hc2 0), LV.act_live _ hd' hc2]
      refine ⟨64, by omega, ?_⟩
      show L'.D.read p = _
      rw [hD, hfl, h64]
/-- The header is written, and flushed: the region that was made is the one that is used; or the line was cut, and either is. -/
theorem Md.sl (h : Md n L R s rs (nb rs) g gs) (hX : ∀ k, L.D.X k = none) (hg : g + 1 < 4294967296) :
    ((slR R L (g + 1)).2.2 = 0 ∧ Cm n (slR R L (g + 1)).2.1 (slR R L (g + 1)).1 s (g + 1) rs) ∨
    ((slR R L (g + 1)).2.2 = 8 ∧ (slR R L (g + 1)).2.1.down = true ∧ (Rest n (slR R L (g + 1)).2.1.D (1 - s) g gs ∨ Rest n (slR R L (g + 1)).2.1.D s (g + 1) rs)) := by
  have hs2 := side_two h.s1
  have hsd := side_lt h.s1 h.n2 h.inn
  have hh := h.st.inv
  rw [h.at_, h.rn] at hh
  obtain ⟨e1, e2⟩ := slR_seq (L := L) (q := g + 1) h.st.bad (by omega)
  have hli : ∀ F ∈ [wrD R.at_ (hdB (g + 1)), DV.flush], ∀ D, OutD (fun k => k = s * n) D (F D) := fun F hF D => by
    rcases List.mem_cons.1 hF with rfl | hF
    · exact OutD.wr (B := fun k => k = s * n) h.at_ _ _
    · rw [List.mem_singleton.1 hF]; exact OutD.flush _ D
  have hlo : ∀ F ∈ [wrD R.at_ (hdB (g + 1)), DV.flush], ∀ D : DV, D.ok → (F D).ok := fun F hF D hD => by
    rcases List.mem_cons.1 hF with rfl | hF
    · exact ok_wr hD _ _
    · rw [List.mem_singleton.1 hF]; exact hD.flush
  have hln : ∀ F ∈ [wrD R.at_ (hdB (g + 1)), DV.flush], ∀ D : DV, (F D).n = D.n := fun F hF D => by
    rcases List.mem_cons.1 hF with rfl | hF
    · exact writeTo_n D _ _
    · rw [List.mem_singleton.1 hF]; rfl
  have ho := OutD.seq L hli
  have hn := (LV.seq_same _ L hln).2.2.2.2
  have hok : (L.seq [wrD R.at_ (hdB (g + 1)), DV.flush]).1.D.ok := LV.seq_inv DV.ok (fun D cs h => h.crash cs) _ L hlo h.st.inv.ok
  have hfar : ∀ k, (1 - s) * n ≤ k → k < (1 - s) * n + n → ¬ k = s * n := fun k h1 h2 h3 => side_far h.s1 k (by omega) (by have := h.n2; omega) h1 h2
  have hgo := OutD.groups ho hfar (fun k _ _ => hX k)
  have hfo := (ho ((1 - s) * n) (hfar _ (Nat.le_refl _) (by have := h.n2; omega)) (hX _)).2
  have hot : L.D.F ((1 - s) * n) = hdB g := by
    have := genOf_eq (h.st.inv.ok.fl ((1 - s) * n))
    rw [h.gen] at this
    split at this
    · rename_i e; rw [← this] at e; exact e
    · have := h.pos; omega
  obtain ⟨c, hc, ec⟩ := seal_head L h.st.live (by rw [hh.hF, hdB_zero]) hh.hX (show s * n < L.D.n by have := h.n2; omega) (g + 1)
  rw [← h.at_] at ec
  by_cases h0 : (L.seq [wrD R.at_ (hdB (g + 1)), DV.flush]).2 = 0
  · left
    rcases slR_st h.st (g := g + 1) (by omega) hg with ⟨L', h1, h2, h3⟩ | ⟨L', h1, h2, _⟩
    · rw [h1]
      subst h2
      refine ⟨rfl, h3, h.at_, h.rn, h.n2, by rw [hn]; exact h.inn, fun k => ?_, h.s1, by omega, ?_⟩
      · rw [LV.seq_zero _ L h.st.live h0]
        rfl
      · rw [hfo, hot]
        exact Qt.hd (by omega) (by omega)
    · rw [h2] at h0; cases h0
  · right
    obtain ⟨q1, q2, q3⟩ := LV.seq_eight _ L h.st.live h0
    rw [e1, e2]
    refine ⟨q1, q2, ?_⟩
    by_cases hgn : genOf ((L.seq [wrD R.at_ (hdB (g + 1)), DV.flush]).1.D.F R.at_) = g + 1
    · right
      refine ⟨hok, h.n2, by rw [← h.rn]; exact h.st.n256, by rw [hn]; exact h.inn, q3, h.s1, by rw [← h.at_]; exact hgn, ?_, by omega, hg, ?_⟩
      · have hc := hh.contents (by have := h.st.n256; have := h.rn; omega)
        rw [← hc.2]
        unfold DV.groups
        congr 1
        unfold DV.logs
        refine List.map_congr_left fun k hk => ?_
        rw [List.mem_range] at hk
        obtain ⟨h1, h2⟩ := ho (s * n + 1 + k) (by omega) (hX _)
        rw [DV.read_none h1, DV.read_none (hX _), h2]
      · rw [hfo, hot]
        exact Qt.hd (by omega) (by omega)
    · left
      refine ⟨hok, h.n2, by rw [← h.rn]; exact h.st.n256, by rw [hn]; exact h.inn, q3, hs2.2, by rw [hfo]; exact h.gen, by rw [hgo]; exact h.grp, h.pos, h.lt, ?_⟩
      rw [hs2.1, ← h.at_]
      rw [ec] at hgn ⊢
      exact Qt.torn hg hc h.pos hgn
/-- What a region is made of: a Format, a group, a Flush, a Seal. -/
def anR (L : LV) (A n gen : Nat) (t : List UInt8) : RV × LV × Nat :=
  if (fmtR L (A : Int) (n : Int)).2 ≠ 0 then (⟨A, n, 0, false⟩, (fmtR L (A : Int) (n : Int)).1, (fmtR L (A : Int) (n : Int)).2) else
  if (apR ⟨A, n, 0, false⟩ (fmtR L (A : Int) (n : Int)).1 t).2.2 ≠ 0 then apR ⟨A, n, 0, false⟩ (fmtR L (A : Int) (n : Int)).1 t else
  if (flR (apR ⟨A, n, 0, false⟩ (fmtR L (A : Int) (n : Int)).1 t).1 (apR ⟨A, n, 0, false⟩ (fmtR L (A : Int) (n : Int)).1 t).2.1).2.2 ≠ 0 then flR (apR ⟨A, n, 0, false⟩ (fmtR L (A : Int) (n : Int)).1 t).1 (apR ⟨A, n, 0, false⟩ (fmtR L (A : Int) (n : Int)).1 t).2.1 else
  slR (flR (apR ⟨A, n, 0, false⟩ (fmtR L (A : Int) (n : Int)).1 t).1 (apR ⟨A, n, 0, false⟩ (fmtR L (A : Int) (n : Int)).1 t).2.1).1 (flR (apR ⟨A, n, 0, false⟩ (fmtR L (A : Int) (n : Int)).1 t).1 (apR ⟨A, n, 0, false⟩ (fmtR L (A : Int) (n : Int)).1 t).2.1).2.1 gen
/-- A Checkpoint. -/
theorem Rest.ck (h : Rest n L.D s g gs) (hd : L.down = false) (hg : g + 1 < 4294967296) {t : List UInt8} (ht : needs t.length + 1 ≤ n) :
    ((anR L ((1 - s) * n) n (g + 1) t).2.2 = 0 ∧ Cm n (anR L ((1 - s) * n) n (g + 1) t).2.1 (anR L ((1 - s) * n) n (g + 1) t).1 (1 - s) (g + 1) [t]) ∨
    ((anR L ((1 - s) * n) n (g + 1) t).2.2 = 8 ∧ (anR L ((1 - s) * n) n (g + 1) t).2.1.down = true ∧ (Rest n (anR L ((1 - s) * n) n (g + 1) t).2.1.D s g gs ∨ Rest n (anR L ((1 - s) * n) n (g + 1) t).2.1.D (1 - s) (g + 1) [t])) := by
  have hsd := side_lt h.s1 h.n2 h.inn
  have hs2 := side_two h.s1
  have hfr : fmtR L (((1 - s) * n : Nat) : Int) (n : Int) = L.seq (fmtA ((1 - s) * n) n) := by
    unfold fmtR
    rw [if_pos (rgC_zero h.n2 (by have := h.n256; omega) hsd.2), Int.toNat_natCast, Int.toNat_natCast]
  unfold anR
  rw [hfr]
  rcases h.fmt hd with ⟨h1, h2⟩ | ⟨h1, h2, h3⟩
  · rw [if_neg (not_not_intro h1)]
    have hlf : needs t.length ≤ RV.left ⟨(1 - s) * n, n, 0, false⟩ := by show _ ≤ n - 1 - 0; omega
    rcases h2.ap hlf with ⟨h3, h4⟩ | ⟨h3, h4, h5⟩
    · rw [if_neg (not_not_intro h3)]
      rcases h4.fl with ⟨h5, h6, h7⟩ | ⟨h5, h6, h7⟩
      · rw [if_neg (not_not_intro h5)]
        have := h6.sl h7 hg
        rwa [hs2.1] at this
      · rw [if_pos (by rw [h5]; decide)]
        rw [hs2.1] at h7
        exact .inr ⟨h5, h6, .inl h7⟩
    · rw [if_pos (by rw [h3]; decide)]
      rw [hs2.1] at h5
      exact .inr ⟨h3, h4, .inl h5⟩
  · rw [if_pos (by rw [h1]; decide)]
    exact .inr ⟨h1, h2, .inl h3⟩
/-- A Commit: a group, a Flush. -/
def cmR (R : RV) (L : LV) (t : List UInt8) : RV × LV × Nat := if (apR R L t).2.2 ≠ 0 then apR R L t else flR (apR R L t).1 (apR R L t).2.1
theorem Cm.cm (h : Cm n L R s g gs) {t : List UInt8} (ht : needs t.length ≤ R.left) :
    ((cmR R L t).2.2 = 0 ∧ Cm n (cmR R L t).2.1 (cmR R L t).1 s g (gs ++ [t])) ∨
    ((cmR R L t).2.2 = 8 ∧ (cmR R L t).2.1.down = true ∧ (Rest n (cmR R L t).2.1.D s g gs ∨ Rest n (cmR R L t).2.1.D s g (gs ++ [t]))) := by
  have hs2 := side_two h.s1
  have hsd := side_lt h.s1 h.n2 h.inn
  have hfar : ∀ k, (1 - s) * n ≤ k → k < (1 - s) * n + n → ¬ (s * n < k ∧ k < s * n + n) := fun k h1 h2 h3 => side_far h.s1 k (by omega) (by omega) h1 h2
  -- of acts that leave the header
  have hall : ∀ {L1 : LV} {l : List (DV → DV)}, (∀ F ∈ l, ∀ D, OutD (fun k => s * n < k ∧ k < s * n + n) D (F D)) → (∀ F ∈ l, ∀ D : DV, D.ok → (F D).ok) → (∀ F ∈ l, ∀ D : DV, (F D).n = D.n) →
      L1.D.X (s * n) = none → L1.D.F (s * n) = hdB g → L1.D.X ((1 - s) * n) = none → Qt (L1.D.F ((1 - s) * n)) g → (L1.seq l).1.D.X (s * n) = none ∧ (L1.seq l).1.D.F (s * n) = hdB g ∧ (L1.seq l).1.D.X ((1 - s) * n) = none ∧ Qt ((L1.seq l).1.D.F ((1 - s) * n)) g ∧ (L1.seq l).1.D.n = L1.D.n := fun {L1 l} hl hk hln a1 a2 a3 a4 => by
    have ho := OutD.seq L1 hl
    have b1 := ho (s * n) (by omega) a1
    have b2 := ho ((1 - s) * n) (hfar _ (Nat.le_refl _) (by have := h.n2; omega)) a3
    exact ⟨b1.1, b1.2.trans a2, b2.1, by rw [b2.2]; exact a4, (LV.seq_same l L1 hln).2.2.2.2⟩
  have hdead : ∀ {R1 : RV} {L1 : LV}, DdR R1 L1 (gs ++ [t]) (nb gs) (· = g) → R1.at_ = s * n → R1.n = n → L1.D.F (s * n) = hdB g → Qt (L1.D.F ((1 - s) * n)) g → L1.D.n = L.D.n → Rest n L1.D s g gs ∨ Rest n L1.D s g (gs ++ [t]) := fun {R1 L1} hd a1 a2 a3 a4 a5 => by
    have hi := hd.inv
    rw [a1, a2] at hi
    obtain ⟨c1, m, c2, c3, c4⟩ := hi.contents (by have := h.st.n256; have := h.rn; omega)
    rw [DV.read_none (hi.X _)] at c1
    have hm := c4 gs.length (by rw [List.length_append]; omega) (by rw [List.take_left']; exact Nat.le_refl _; rfl)
    have hR : ∀ q, (gs ++ [t]).take m = q → Rest n L1.D s g q := fun q hq => ⟨hi.ok, h.n2, by rw [← a2]; exact hd.n256, by rw [a5]; exact h.inn, hi.X, h.s1, c1, c3.trans hq, h.pos, h.st.inv.gl, a4⟩
    rw [List.length_append] at c2
    by_cases e : m = gs.length
    · exact .inl (hR gs (by rw [e]; exact List.take_left' rfl))
    · exact .inr (hR _ (List.take_of_length_le (by rw [List.length_append]; simp at c2 ⊢; omega)))
  have hh := h.st.inv
  rw [h.at_, h.rn] at hh
  have ha1 := hall (L1 := L) (ap_in h.at_ h.rn ht) ok_wrs (wrs_n _ _) hh.hX hh.hF (h.X _) h.qt
  obtain ⟨e1, e2⟩ := apR_seq (L := L) h.st.bad ht
  unfold cmR
  rcases apR_st h.st t with ⟨h1, _⟩ | ⟨_, L1, h1, h2, h3⟩ | ⟨_, L1, h1, h2, h3⟩
  · omega
  · rw [h1] at e1 e2 ⊢
    have e1 : L1 = _ := e1
    rw [if_neg (show ¬ (0 : Nat) ≠ 0 by decide)]
    rw [← e1] at ha1
    obtain ⟨f1, f2⟩ := flR_seq (L := L1) h3.bad
    have ha2 := hall (L1 := L1) (fl_in _) fl_ok fl_n ha1.1 ha1.2.1 ha1.2.2.1 ha1.2.2.2.1
    have hn2 : (L1.seq [DV.flush]).1.D.n = L.D.n := ha2.2.2.2.2.trans ha1.2.2.2.2
    rcases flR_st h3 with ⟨L2, g1, g2, g3⟩ | ⟨L2, g1, g2, g3⟩
    · left
      show (flR _ L1).2.2 = 0 ∧ Cm n (flR _ L1).2.1 (flR _ L1).1 s g (gs ++ [t])
      rw [g1] at f2 ⊢
      subst g2
      refine ⟨rfl, g3, h.at_, h.rn, h.n2, by rw [hn2]; exact h.inn, fun k => ?_, h.s1, h.pos, ha2.2.2.2.1⟩
      rw [LV.seq_zero _ L1 h3.live f2.symm]
      rfl
    · right
      show (flR _ L1).2.2 = 8 ∧ (flR _ L1).2.1.down = true ∧ (Rest n (flR _ L1).2.1.D s g gs ∨ Rest n (flR _ L1).2.1.D s g (gs ++ [t]))
      rw [g1] at f1 ⊢
      have f1 : L2 = _ := f1
      subst f1
      exact ⟨rfl, g3.down, hdead g3 h.at_ h.rn ha2.2.1 ha2.2.2.2.1 hn2⟩
  · right
    rw [h1] at e1 ⊢
    have e1 : L1 = _ := e1
    rw [if_pos (show (8 : Nat) ≠ 0 by decide)]
    subst e1
    exact ⟨rfl, h3.down, hdead h3 h.at_ h.rn ha1.2.1 ha1.2.2.2.1 ha1.2.2.2.2⟩
end
end Go.Proofs.YtddjkbpgaenpgaaGreat

