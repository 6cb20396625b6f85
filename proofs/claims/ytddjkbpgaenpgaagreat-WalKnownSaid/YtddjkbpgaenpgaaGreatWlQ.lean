/- What the laws' own awake answers. No condition. -/
import Derived.Test.YtddjkbpgaenpgaaGreatRgW
import Derived.Test.YtddjkbpgaenpgaaGreatDvR
import Derived.Test.YtddjkbpgaenpgaaGreatWlP
section
namespace Go.Proofs.YtddjkbpgaenpgaaGreat
open Go.RowKit Go.Shelf

/-- One more group, over a line that no act cuts. -/
theorem apR_uc {R : RV} {L : LV} {gs : List (List UInt8)} {fc gen : Nat} (h : StR R L gs fc gen) (hu : Uc L) (s : List UInt8) (hf : needs s.length ≤ R.left) :
    ∃ L', apR R L s = (⟨R.at_, R.n, R.used + needs s.length, false⟩, L', 0) ∧ StR ⟨R.at_, R.n, R.used + needs s.length, false⟩ L' (gs ++ [s]) fc gen ∧ Uc L' ∧ L'.acts = L.acts + needs s.length ∧ L'.cs = L.cs ∧ L'.P = L.P ∧ L'.D = (wrs (R.at_ + 1 + R.used) (blks (R.used + 1) s)).foldl (fun D F => F D) L.D := by
  have hs := hu.seq (wrs (R.at_ + 1 + R.used) (blks (R.used + 1) s))
  rcases apR_st h s with ⟨h1, _⟩ | ⟨_, L', h1, h2, h3⟩ | ⟨_, L', h1, h2, _⟩
  · omega
  · subst h2
    exact ⟨_, h1, h3, hs.2.1, by rw [hs.2.2.1, wrs_len, blks_len], hs.2.2.2.1, hs.2.2.2.2.1, hs.2.2.2.2.2⟩
  · rw [hs.1] at h2; cases h2
theorem flR_uc {R : RV} {L : LV} {gs : List (List UInt8)} {fc gen : Nat} (h : StR R L gs fc gen) (hu : Uc L) :
    ∃ L', flR R L = (R, L', 0) ∧ StR R L' gs (nb gs) gen ∧ Uc L' ∧ L'.acts = L.acts + 1 ∧ L'.cs = L.cs ∧ L'.P = L.P ∧ L'.D = L.D.flush := by
  have hs := hu.seq [DV.flush]
  rcases flR_st h with ⟨L', h1, h2, h3⟩ | ⟨L', h1, h2, _⟩
  · subst h2
    exact ⟨_, h1, h3, hs.2.1, hs.2.2.1, hs.2.2.2.1, hs.2.2.2.2.1, hs.2.2.2.2.2⟩
  · rw [hs.1] at h2; cases h2
theorem slR_uc {R : RV} {L : LV} {gs : List (List UInt8)} {fc gen : Nat} (h : StR R L gs fc gen) (hu : Uc L) {g : Nat} (hg0 : g ≠ 0) (hg : g < 4294967296) :
    ∃ L', slR R L g = (R, L', 0) ∧ StR R L' gs (nb gs) g ∧ Uc L' ∧ L'.acts = L.acts + 2 ∧ L'.cs = L.cs ∧ L'.P = L.P ∧ L'.D = (wrD R.at_ (hdB g) L.D).flush := by
  have hs := hu.seq [wrD R.at_ (hdB g), DV.flush]
  rcases slR_st h hg0 hg with ⟨L', h1, h2, h3⟩ | ⟨L', h1, h2, _⟩
  · subst h2
    exact ⟨_, h1, h3, hs.2.1, hs.2.2.1, hs.2.2.2.1, hs.2.2.2.2.1, hs.2.2.2.2.2⟩
  · rw [hs.1] at h2; cases h2
theorem new_uc : Uc (LV.new (DV.new 256) (-1) []) := ⟨rfl, by show (-1 : Int) < 0; decide⟩
end Go.Proofs.YtddjkbpgaenpgaaGreat
end
section
namespace Go.Proofs.YtddjkbpgaenpgaaGreat

theorem Uc.seq1 {L : LV} (h : Uc L) (l : List (DV → DV)) : Uc (L.seq l).1 := (h.seq l).2.1
theorem uc_fmt {L : LV} (h : Uc L) (q m : Int) : Uc (fmtR L q m).1 := by
  unfold fmtR
  split
  · exact h.seq1 _
  · exact h
theorem uc_ap {R : RV} {L : LV} (h : Uc L) (t : List UInt8) : Uc (apR R L t).2.1 := by
  unfold apR
  split
  · exact h
  split
  · exact h
  split <;> exact h.seq1 _
theorem uc_fl {R : RV} {L : LV} (h : Uc L) : Uc (flR R L).2.1 := by
  unfold flR
  split
  · exact h
  · exact h.seq1 _
theorem uc_sl {R : RV} {L : LV} (h : Uc L) (g : Nat) : Uc (slR R L g).2.1 := by
  unfold slR
  split
  · exact h
  split
  · exact h
  · exact h.seq1 _
theorem uc_an {L : LV} (h : Uc L) (A n gen : Nat) (t : List UInt8) : Uc (anR L A n gen t).2.1 := by
  unfold anR
  split
  · exact uc_fmt h _ _
  split
  · exact uc_ap (uc_fmt h _ _) t
  split
  · exact uc_fl (uc_ap (uc_fmt h _ _) t)
  · exact uc_sl (uc_fl (uc_ap (uc_fmt h _ _) t)) gen
theorem uc_cm {R : RV} {L : LV} (h : Uc L) (t : List UInt8) : Uc (cmR R L t).2.1 := by
  unfold cmR
  split
  · exact uc_ap h t
  · exact uc_fl (uc_ap h t)
section
variable {n : Nat} {L : LV} {D : DV} {R : RV} {s g : Nat} {gs : List (List UInt8)}
theorem Rest.ck_uc (h : Rest n L.D s g gs) (hu : Uc L) (hg : g + 1 < 4294967296) {t : List UInt8} (ht : needs t.length + 1 ≤ n) :
    (anR L ((1 - s) * n) n (g + 1) t).2.2 = 0 ∧ Cm n (anR L ((1 - s) * n) n (g + 1) t).2.1 (anR L ((1 - s) * n) n (g + 1) t).1 (1 - s) (g + 1) [t] ∧ Uc (anR L ((1 - s) * n) n (g + 1) t).2.1 := by
  have hu' := uc_an hu ((1 - s) * n) n (g + 1) t
  rcases h.ck hu.1 hg ht with ⟨h1, h2⟩ | ⟨_, h2, _⟩
  · exact ⟨h1, h2, hu'⟩
  · rw [hu'.1] at h2; cases h2
theorem Cm.cm_uc (h : Cm n L R s g gs) (hu : Uc L) {t : List UInt8} (ht : needs t.length ≤ R.left) :
    (cmR R L t).2.2 = 0 ∧ Cm n (cmR R L t).2.1 (cmR R L t).1 s g (gs ++ [t]) ∧ Uc (cmR R L t).2.1 := by
  have hu' := uc_cm (R := R) hu t
  rcases h.cm ht with ⟨h1, h2⟩ | ⟨_, h2, _⟩
  · exact ⟨h1, h2, hu'⟩
  · rw [hu'.1] at h2; cases h2
/-- Make, on a device without fresh bytes. -/
theorem mk_uc (hu : Uc L) (hok : L.D.ok) (h2 : 2 ≤ n) (h3 : n ≤ 256) (h4 : 2 * n ≤ L.D.n) {t : List UInt8} (ht : t.length ≤ 58 * (n - 1)) :
    (mkR L n t).2.2 = 0 ∧ Cm n (mkR L n t).2.1 (mkR L n t).1 0 1 [t] ∧ Uc (mkR L n t).2.1 := by
  have hnd : needs t.length + 1 ≤ n := by unfold needs; omega
  have f1 := fmtR_st (L := L) (A := n) (n := n) hu.1 (fun k _ => by have := hu.2; omega) hok h2 h3 (by omega)
  obtain ⟨q1, q2, q3, q4, q5, q6, q7, q8⟩ := f1
  have u1 := uc_fmt hu (n : Int) (n : Int)
  have x1 : ∀ k, (fmtR L (n : Int) (n : Int)).1.D.X k = none := by
    unfold fmtR
    rw [if_pos (rgC_zero h2 (by omega) (by omega)), Int.toNat_natCast]
    intro k
    have hz := (hu.seq (fmtA n n)).1
    rw [LV.seq_zero _ L hu.1 hz]
    exact (fmt_live hok (by omega) h2).2.2.1 k
  have e0 : mkR L n t = anR (fmtR L (n : Int) (n : Int)).1 (0 * n) n 1 t := by
    unfold mkR
    rw [if_neg (by omega), if_neg (not_not_intro q1)]
  rw [e0]
  obtain ⟨L1, hL1⟩ : ∃ L1, (fmtR L (n : Int) (n : Int)).1 = L1 := ⟨_, rfl⟩
  rw [hL1] at q2 q3 q4 q5 q6 q7 q8 u1 x1 ⊢
  have hok1 : L1.D.ok := q8.inv.ok
  have hread : L1.D.F n = zb := by
    rw [← DV.read_none (x1 n), q7 n, if_pos (by omega)]
  have hu' := uc_an u1 (0 * n) n 1 t
  -- the first region is made
  rw [Nat.zero_mul] at hu' ⊢
  have f2 := fmtR_st (L := L1) (A := 0) (n := n) u1.1 (fun k _ => by have := u1.2; omega) hok1 h2 h3 (by omega)
  obtain ⟨p1, p2, p3, p4, p5, p6, p7, p8⟩ := f2
  have u2 := uc_fmt u1 ((0 : Nat) : Int) (n : Int)
  have x2 : ∀ k, (fmtR L1 ((0 : Nat) : Int) (n : Int)).1.D.X k = none := by
    unfold fmtR
    rw [if_pos (rgC_zero h2 (by omega) (by omega)), Int.toNat_natCast, Int.toNat_natCast]
    intro k
    have hz := (u1.seq (fmtA 0 n)).1
    rw [LV.seq_zero _ L1 u1.1 hz]
    exact (fmt_live hok1 (by omega) h2).2.2.1 k
  obtain ⟨L2, hL2⟩ : ∃ L2, (fmtR L1 ((0 : Nat) : Int) (n : Int)).1 = L2 := ⟨_, rfl⟩
  have hread2 : L2.D.F n = zb := by
    have := p7 n
    rw [if_neg (by omega), DV.read_none (x1 n), hread, hL2, DV.read_none (by rw [← hL2]; exact x2 n)] at this
    exact this
  rw [hL2] at p2 p3 p4 p5 p6 p7 p8 u2 x2
  have hlf : needs t.length ≤ RV.left ⟨0, n, 0, false⟩ := by show _ ≤ n - 1 - 0; omega
  obtain ⟨L3, a1, a2, a3, a4, a5, a6, a7⟩ := apR_uc p8 u2 t (by show needs t.length ≤ n - 1 - 0; omega)
  obtain ⟨L4, b1, b2, b3, b4, b5, b6, b7⟩ := flR_uc a2 a3
  obtain ⟨L5, c1, c2, c3, c4, c5, c6, c7⟩ := slR_uc b2 b3 (g := 1) (by decide) (by decide)
  have e1 : anR L1 0 n 1 t = (⟨0, n, 0 + needs t.length, false⟩, L5, 0) := by
    unfold anR
    rw [hL2, if_neg (not_not_intro p1), a1]
    rw [if_neg (show ¬ (0 : Nat) ≠ 0 by decide)]
    show (if (flR ⟨0, n, 0 + needs t.length, false⟩ L3).2.2 ≠ 0 then _ else slR (flR ⟨0, n, 0 + needs t.length, false⟩ L3).1 (flR ⟨0, n, 0 + needs t.length, false⟩ L3).2.1 1) = _
    rw [b1, if_neg (show ¬ (0 : Nat) ≠ 0 by decide)]
    exact c1
  rw [e1] at hu' ⊢
  refine ⟨rfl, ⟨c2, by show 0 = 0 * n; omega, rfl, h2, ?_, ?_, .inl rfl, by decide, ?_⟩, hu'⟩
  · show 2 * n ≤ L5.D.n
    rw [c7]
    show 2 * n ≤ (wrD 0 (hdB 1) L4.D).n
    rw [show (wrD 0 (hdB 1) L4.D).n = L4.D.n from writeTo_n _ _ _, b7]
    show 2 * n ≤ L3.D.n
    have := (LV.seq_same (wrs (0 + 1 + 0) (blks (0 + 1) t)) L2 (wrs_n _ _)).2.2.2.2
    have e7 : L3.D.n = L2.D.n := by
      have h7 := ls_ap ⟨0, n, 0, false⟩ L2 t
      rw [a1] at h7
      exact h7.1.n
    rw [e7, p6, q6]; exact h4
  · intro k
    show L5.D.X k = none
    rw [c7]; rfl
  · show Qt (L5.D.F ((1 - 0) * n)) 1
    have hF : L5.D.F n = zb := by
      rw [c7]
      have o1 : OutD (fun k => k = 0) L4.D (wrD 0 (hdB 1) L4.D) := OutD.wr (B := fun k => k = 0) rfl _ _
      have o2 : OutD (fun k => k = 0) (wrD 0 (hdB 1) L4.D) (wrD 0 (hdB 1) L4.D).flush := OutD.flush _ _
      have x4 : L4.D.X n = none := by rw [b7]; rfl
      have f4 : L4.D.F n = zb := by
        rw [b7]
        show L3.D.read n = zb
        have o3 : OutD (fun k => 0 < k ∧ k < n) L2.D L3.D := by
          have h8 := OutD.seq L2 (ap_in (R := ⟨0, n, 0, false⟩) (s := 0) (n := n) (by show 0 = 0 * n; omega) rfl hlf)
          have h9 := (apR_seq (L := L2) (R := ⟨0, n, 0, false⟩) rfl hlf).1
          rw [a1] at h9
          have h9 : L3 = _ := h9
          rw [h9]
          exact h8.mono fun k hk => by omega
        have h10 := o3 n (by omega) (x2 n)
        rw [DV.read_none h10.1, h10.2]
        exact hread2
      have h11 := (o1.trans o2) n (by omega) x4
      exact h11.2.trans f4
    rw [show (1 - 0) * n = n by omega, hF]
    exact Qt.zer (by decide)
/-- What Open finds. -/
theorem Rest.op (h : Rest n D s g gs) (hd : L.down = false) (hD : L.D = D) : opR L n = (s, g, gs, 0) := by
  subst hD
  have hr := h.reads
  have hsd := side_lt h.s1 h.n2 h.inn
  have r0 : ∀ s', s' = 0 ∨ s' = 1 → rdR L ((s' * n : Nat) : Int) (n : Int) = (genOf (L.D.read (s' * n)), L.D.groups (s' * n) n, 0) := fun s' hs' => rdR_live hd h.n2 (by have := h.n256; omega) (side_lt hs' h.n2 h.inn).1
  have hp := h.pos
  unfold opR
  rw [r0 0 (.inl rfl), r0 1 (.inr rfl), if_neg (show ¬ (0 : Nat) ≠ 0 by decide), if_neg (show ¬ (0 : Nat) ≠ 0 by decide)]
  have hgr := h.grp
  obtain ⟨h1, h2⟩ := hr
  rcases h.s1 with e | e
  · subst e
    have h2 : genOf (L.D.read (1 * n)) < g := h2
    rw [h1, hgr]
    rw [if_neg (show ¬ g < genOf (L.D.read (1 * n)) by omega), if_neg (show ¬ g = 0 by omega)]
  · subst e
    have h2 : genOf (L.D.read (0 * n)) < g := h2
    rw [h1, hgr]
    rw [if_pos h2]
end
end Go.Proofs.YtddjkbpgaenpgaaGreat
end
