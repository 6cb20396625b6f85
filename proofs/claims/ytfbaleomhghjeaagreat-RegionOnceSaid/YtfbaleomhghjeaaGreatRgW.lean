/- What calls leave of a region, while its line lives, and when it is cut; what is read then. No condition. -/
import Derived.Test.YtfbaleomhghjeaaGreatRgU
namespace Go.Proofs.YtfbaleomhghjeaaGreat

theorem nb_one (s : List UInt8) : nb [s] = needs s.length := Nat.add_zero _
theorem blksAll_snoc (gs : List (List UInt8)) (s : List UInt8) (i : Nat) : blksAll i (gs ++ [s]) = blksAll i gs ++ blks (i + nb gs) s := by
  rw [blksAll_append]
  show _ ++ (blks (i + nb gs) s ++ []) = _
  rw [List.append_nil]
/-- A region of a line that lives: the groups gs were appended, the first fc log blocks are firm, gen was sealed. -/
structure StR (R : RV) (L : LV) (gs : List (List UInt8)) (fc gen : Nat) : Prop where
  bad : R.bad = false
  live : L.down = false
  used : R.used = nb gs
  n256 : R.n ≤ 256
  inv : Live L.D R.at_ R.n (blksAll 1 gs) fc gen
/-- A region of a line that was cut. -/
structure DdR (R : RV) (L : LV) (gs : List (List UInt8)) (fc : Nat) (G : Nat → Prop) : Prop where
  bad : R.bad = true
  down : L.down = true
  n256 : R.n ≤ 256
  inv : Dead L.D R.at_ R.n (blksAll 1 gs) fc G
section
variable {R : RV} {L : LV} {gs : List (List UInt8)} {fc gen : Nat} {G : Nat → Prop}
theorem StR.room (h : StR R L gs fc gen) : R.used + 1 ≤ R.n := by have := h.inv.len; rw [blksAll_len] at this; have := h.used; omega
theorem apR_st (h : StR R L gs fc gen) (s : List UInt8) :
    (R.left < needs s.length ∧ apR R L s = (R, L, 7)) ∨
    (needs s.length ≤ R.left ∧ ∃ L', apR R L s = (⟨R.at_, R.n, R.used + needs s.length, false⟩, L', 0) ∧ L' = (L.seq (wrs (R.at_ + 1 + R.used) (blks (R.used + 1) s))).1 ∧ StR ⟨R.at_, R.n, R.used + needs s.length, false⟩ L' (gs ++ [s]) fc gen) ∨
    (needs s.length ≤ R.left ∧ ∃ L', apR R L s = (⟨R.at_, R.n, R.used, true⟩, L', 8) ∧ (L.seq (wrs (R.at_ + 1 + R.used) (blks (R.used + 1) s))).2 = 8 ∧ DdR ⟨R.at_, R.n, R.used, true⟩ L' (gs ++ [s]) fc (· = gen)) := by
  have hb : ¬ R.bad = true := by rw [h.bad]; exact Bool.false_ne_true
  by_cases hf : R.left < needs s.length
  · exact .inl ⟨hf, by unfold apR; rw [if_neg hb, if_pos hf]⟩
  · right
    have hlen := h.room
    have hfit : R.used + needs s.length + 1 ≤ R.n := by unfold RV.left at hf; omega
    have hw := Live.writes h.n256 (blks (R.used + 1) s) (blksAll 1 gs) L h.live h.inv (by rw [blksAll_len, blks_len, ← h.used]; omega) (fun j t e => by
      rw [blksAll_len, ← h.used]
      have hj : j < needs s.length := by have := (List.getElem?_eq_some_iff.1 e).1; rwa [blks_len] at this
      rw [blks_at _ _ _ hj] at e
      obtain rfl := Option.some.inj e
      exact ⟨_, _, pieceAt_len s j, by unfold blk; rw [show R.used + 1 + j = R.used + j + 1 by omega]⟩)
    rw [blksAll_len, ← h.used] at hw
    have hsn : blksAll 1 gs ++ blks (R.used + 1) s = blksAll 1 (gs ++ [s]) := by rw [blksAll_snoc, h.used, Nat.add_comm 1]
    rw [hsn] at hw
    have hnb : R.used + needs s.length = nb (gs ++ [s]) := by rw [nb_append, nb_one, h.used]
    rcases hw with ⟨h1, h2, h3⟩ | ⟨h1, h2, h3⟩
    · exact .inl ⟨by omega, _, by unfold apR; rw [if_neg hb, if_neg hf, if_pos h1], rfl, ⟨rfl, h2, hnb, h.n256, h3⟩⟩
    · exact .inr ⟨by omega, _, by unfold apR; rw [if_neg hb, if_neg hf, if_neg (by rw [h1]; decide), h1], h1, ⟨rfl, h2, h.n256, h3⟩⟩
theorem flR_st (h : StR R L gs fc gen) :
    (∃ L', flR R L = (R, L', 0) ∧ L' = (L.seq [DV.flush]).1 ∧ StR R L' gs (nb gs) gen) ∨
    (∃ L', flR R L = (⟨R.at_, R.n, R.used, true⟩, L', 8) ∧ (L.seq [DV.flush]).2 = 8 ∧ DdR ⟨R.at_, R.n, R.used, true⟩ L' gs fc (· = gen)) := by
  have hb : ¬ R.bad = true := by rw [h.bad]; exact Bool.false_ne_true
  have hw := Live.flushed h.n256 L h.live h.inv
  rw [blksAll_len] at hw
  have hR : (⟨R.at_, R.n, R.used, false⟩ : RV) = R := by have := h.bad; cases R; simp only at this; rw [this]
  rcases hw with ⟨h1, h2, h3⟩ | ⟨h1, h2, h3⟩
  · exact .inl ⟨_, by unfold flR; rw [if_neg hb, h1]; show ((⟨R.at_, R.n, R.used, false⟩ : RV), _, _) = _; rw [hR], rfl, ⟨h.bad, h2, h.used, h.n256, h3⟩⟩
  · exact .inr ⟨_, by unfold flR; rw [if_neg hb, h1]; rfl, h1, ⟨rfl, h2, h.n256, h3⟩⟩
theorem slR_st (h : StR R L gs fc gen) {g : Nat} (hg0 : g ≠ 0) (hg : g < 4294967296) :
    (∃ L', slR R L g = (R, L', 0) ∧ L' = (L.seq [wrD R.at_ (hdB g), DV.flush]).1 ∧ StR R L' gs (nb gs) g) ∨
    (∃ L', slR R L g = (⟨R.at_, R.n, R.used, true⟩, L', 8) ∧ (L.seq [wrD R.at_ (hdB g), DV.flush]).2 = 8 ∧ DdR ⟨R.at_, R.n, R.used, true⟩ L' gs fc (fun x => x = 0 ∨ x = gen ∨ x = g)) := by
  have hb : ¬ R.bad = true := by rw [h.bad]; exact Bool.false_ne_true
  have hw := Live.sealing h.n256 hg L h.live h.inv
  rw [blksAll_len] at hw
  have hR : (⟨R.at_, R.n, R.used, false⟩ : RV) = R := by have := h.bad; cases R; simp only at this; rw [this]
  rcases hw with ⟨h1, h2, h3⟩ | ⟨h1, h2, h3⟩
  · exact .inl ⟨_, by unfold slR; rw [if_neg hg0, if_neg hb, h1]; show ((⟨R.at_, R.n, R.used, false⟩ : RV), _, _) = _; rw [hR], rfl, ⟨h.bad, h2, h.used, h.n256, h3⟩⟩
  · exact .inr ⟨_, by unfold slR; rw [if_neg hg0, if_neg hb, h1]; rfl, h1, ⟨rfl, h2, h.n256, h3⟩⟩
theorem DdR.fl (h : DdR R L gs fc G) : flR R L = (R, L, 17) := by unfold flR; rw [if_pos h.bad]
theorem rgC_zero {N A n : Nat} (h1 : 2 ≤ n) (h2 : n ≤ 65536) (h3 : A + n ≤ N) : rgC N (A : Int) (n : Int) = 0 := by unfold rgC; rw [if_neg (by omega)]
theorem rdR_live {A n : Nat} {L' : LV} (hd : L'.down = false) (h1 : 2 ≤ n) (h2 : n ≤ 65536) (h3 : A + n ≤ L'.D.n) : rdR L' (A : Int) (n : Int) = (genOf (L'.D.read A), L'.D.groups A n, 0) := by
  unfold rdR
  rw [if_pos (rgC_zero h1 h2 h3), if_neg (by rw [hd]; exact Bool.false_ne_true), Int.toNat_natCast, Int.toNat_natCast]
/-- A region is read, over whatever line that lives and leads to the device. -/
theorem StR.read (h : StR R L gs fc gen) (hn : 2 ≤ R.n) {L' : LV} (hd : L'.down = false) (hD : L'.D = L.D) : rdR L' (R.at_ : Int) (R.n : Int) = (gen, gs, 0) := by
  have hc := h.inv.contents (by have := h.n256; omega)
  rw [rdR_live hd hn (by have := h.n256; omega) (by rw [hD]; exact h.inv.inn), hD, hc.1, hc.2]
theorem DdR.read (h : DdR R L gs fc G) (hn : 2 ≤ R.n) {L' : LV} (hd : L'.down = false) (hD : L'.D = L.D) : ∃ g m, G g ∧ m ≤ gs.length ∧ (∀ s, s ≤ gs.length → nb (gs.take s) ≤ fc → s ≤ m) ∧ rdR L' (R.at_ : Int) (R.n : Int) = (g, gs.take m, 0) := by
  obtain ⟨h1, m, h2, h3, h4⟩ := h.inv.contents (by have := h.n256; omega)
  exact ⟨_, m, h1, h2, h4, by rw [rdR_live hd hn (by have := h.n256; omega) (by rw [hD]; exact h.inv.inn), hD, h3]⟩
/-- A line that lives is cut without an act. -/
theorem StR.blow (h : StR R L gs fc gen) : DdR ⟨R.at_, R.n, R.used, true⟩ L.blow gs fc (· = gen) := by
  rw [LV.blow_live h.live]
  exact ⟨rfl, rfl, h.n256, h.inv.crash h.n256 L.cs⟩
theorem DdR.blow (h : DdR R L gs fc G) : DdR R L.blow gs fc G := by
  have : L.blow = L := by unfold LV.blow; rw [if_pos h.down]
  rw [this]; exact h
/-- Behind a Format. -/
theorem fmtR_st {A n : Nat} (hd : L.down = false) (hc : ∀ k, k < n + 1 → ((L.acts + k : Nat) : Int) ≠ L.cut) (hok : L.D.ok) (h1 : 2 ≤ n) (h2 : n ≤ 256) (h3 : A + n ≤ L.D.n) :
    (fmtR L (A : Int) (n : Int)).2 = 0 ∧ (fmtR L (A : Int) (n : Int)).1.acts = L.acts + (n + 1) ∧ (fmtR L (A : Int) (n : Int)).1.cut = L.cut ∧ (fmtR L (A : Int) (n : Int)).1.cs = L.cs ∧ (fmtR L (A : Int) (n : Int)).1.P = L.P ∧ (fmtR L (A : Int) (n : Int)).1.D.n = L.D.n ∧
    (∀ k, (fmtR L (A : Int) (n : Int)).1.D.read k = if A ≤ k ∧ k < A + n then zb else L.D.read k) ∧ StR ⟨A, n, 0, false⟩ (fmtR L (A : Int) (n : Int)).1 [] 0 0 := by
  have e : fmtR L (A : Int) (n : Int) = ({ L with D := (fmtA A n).foldl (fun D F => F D) L.D, acts := L.acts + (fmtA A n).length }, 0) := by
    unfold fmtR
    rw [if_pos (rgC_zero h1 (by omega) h3), Int.toNat_natCast, Int.toNat_natCast]
    exact LV.seq_free _ _ hd (fun k hk => hc k (by rwa [fmtA_len] at hk))
  obtain ⟨l1, l2, l3, l4⟩ := fmt_live hok h3 h1
  rw [e]
  exact ⟨rfl, by show L.acts + (fmtA A n).length = _; rw [fmtA_len], rfl, rfl, rfl, l2, l4, ⟨rfl, hd, rfl, h2, l1⟩⟩
/-- A line that no act cuts. -/
def Uc (L : LV) : Prop := L.down = false ∧ L.cut < 0
theorem Uc.seq {L : LV} (h : Uc L) (l : List (DV → DV)) : (L.seq l).2 = 0 ∧ Uc (L.seq l).1 ∧ (L.seq l).1.acts = L.acts + l.length ∧ (L.seq l).1.cs = L.cs ∧ (L.seq l).1.P = L.P ∧ (L.seq l).1.D = l.foldl (fun D F => F D) L.D := by
  rw [LV.seq_free l L h.1 (fun k _ => by have := h.2; omega)]
  exact ⟨rfl, ⟨h.1, h.2⟩, rfl, rfl, rfl, rfl⟩
end
end Go.Proofs.YtfbaleomhghjeaaGreat

