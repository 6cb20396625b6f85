/- A device with two regions of which one is used: what is told of it at rest; what is left of it by acts that are cut. Of no program. No condition. -/
import Derived.Test.YtddjkbpgaenpgaaGreatRgW
import Derived.Test.YtddjkbpgaenpgaaGreatDvR
namespace Go.Proofs.YtddjkbpgaenpgaaGreat

/-- First bytes 0 over a block. -/
def zt (c : Nat) (s : List UInt8) : List UInt8 := zb.take c ++ s.drop c
theorem zt_zero (s : List UInt8) : zt 0 s = s := rfl
theorem zb_take_len {c : Nat} (h : c ≤ 64) : (zb.take c).length = c := by rw [List.length_take, zb_len]; omega
theorem zt_zt {a b : Nat} (_ : a ≤ 64) (hb : b ≤ 64) (s : List UInt8) : zt a (zt b s) = zt (max a b) s := by
  unfold zt
  rw [List.drop_append, zb_take_len hb, List.drop_drop]
  by_cases h : a ≤ b
  · rw [Nat.max_eq_right h, show b + (a - b) = b by omega, ← List.append_assoc]
    congr 1
    conv => rhs; rw [← List.take_append_drop a (zb.take b), List.take_take, Nat.min_eq_left h]
  · rw [Nat.max_eq_left (by omega), List.drop_of_length_le (by rw [zb_take_len hb]; omega), List.nil_append, show b + (a - b) = a by omega]
/-- A header that is told to be less than g, whatever bytes 0 are in front of it. -/
def Qt (s : List UInt8) (g : Nat) : Prop := ∀ c, c ≤ 64 → genOf (zt c s) < g
theorem Qt.lt {s : List UInt8} {g : Nat} (h : Qt s g) : genOf s < g := by have := h 0 (by omega); rwa [zt_zero] at this
theorem Qt.tear {s : List UInt8} {g : Nat} (h : Qt s g) {c : Nat} (hc : c ≤ 64) : Qt (zt c s) g := fun c' h' => by rw [zt_zt h' hc]; exact h _ (by omega)
theorem Qt.mono {s : List UInt8} {g g' : Nat} (h : Qt s g) (hg : g ≤ g') : Qt s g' := fun c hc => Nat.lt_of_lt_of_le (h c hc) hg
theorem Qt.hd {h g : Nat} (hlt : h < g) (hh : h < 4294967296) : Qt (hdB h) g := fun c hc => by
  have := genOf_torn (g := 0) (g0 := h) (c := c) (by decide) hh hc
  unfold zt
  rw [hdB_zero] at this
  dsimp only at this
  omega
theorem Qt.zer {g : Nat} (hg : 0 < g) : Qt zb g := by rw [← hdB_zero]; exact Qt.hd hg (by decide)
theorem quad (a b c d : UInt8) (k j : Nat) (hk : k < 4) (hj : j ≤ 4) (h : [a, b, c, d].take j ++ [0, 0, 0, 0].drop j = [0, 0, 0, 0].take k ++ [a, b, c, d].drop k) :
    [a, b, c, d].take j ++ [0, 0, 0, 0].drop j = [a, b, c, d] ∨ [a, b, c, d].take j ++ [0, 0, 0, 0].drop j = [0, 0, 0, 0] := by
  rcases (by omega : k = 0 ∨ k = 1 ∨ k = 2 ∨ k = 3) with rfl | rfl | rfl | rfl <;> rcases (by omega : j = 0 ∨ j = 1 ∨ j = 2 ∨ j = 3 ∨ j = 4) with rfl | rfl | rfl | rfl | rfl <;> simp at h ⊢ <;> grind
/-- A header that was torn over bytes 0, and is not told. -/
theorem Qt.torn {g1 g c : Nat} (h1 : g1 < 4294967296) (hc : c ≤ 64) (hg : 0 < g) (hne : genOf ((hdB g1).take c ++ zb.drop c) ≠ g1) : Qt ((hdB g1).take c ++ zb.drop c) g := by
  intro k hk
  obtain ⟨s, hs⟩ : ∃ s, (hdB g1).take c ++ zb.drop c = s := ⟨_, rfl⟩
  have hl : ((hdB g1).take c).length = c := by rw [List.length_take, hdB_len]; omega
  have hsl : s.length = 64 := by rw [← hs, List.length_append, hl, List.length_drop, zb_len]; omega
  rw [hs] at hne ⊢
  have hzl : (zt k s).length = 64 := by unfold zt; rw [List.length_append, zb_take_len hk, List.length_drop]; omega
  rw [genOf_eq hzl]
  split
  · rename_i e
    obtain ⟨h, hh⟩ : ∃ h, beN ((zt k s).take 4) = h := ⟨_, rfl⟩
    have hlt : h < 4294967296 := by rw [← hh]; exact beN_lt 4 _ (by rw [List.length_take]; omega)
    rw [hh] at e ⊢
    by_cases h0 : h = 0
    · omega
    exfalso
    have z4 : beN (zb.take 4) = 0 := by decide
    by_cases k4 : 4 ≤ k
    · have : (zt k s).take 4 = zb.take 4 := by
        unfold zt
        rw [List.take_append_of_le_length (by rw [zb_take_len hk]; omega), List.take_take, Nat.min_eq_left k4]
      rw [this, z4] at hh
      omega
    · have d60 : ∀ t : List UInt8, t.length = 64 → (zt k t).drop 60 = t.drop 60 := fun t ht => by
        unfold zt
        rw [List.drop_append, List.drop_of_length_le (by rw [zb_take_len hk]; omega), List.nil_append, zb_take_len hk, List.drop_drop, show k + (60 - k) = 60 by omega]
      have hd60 : ∀ g, (hdB g).drop 60 = beB 4 g := fun g => by
        unfold hdB
        rw [← List.append_assoc, List.drop_append_of_le_length (by rw [List.length_append, beB_len, nul_len]; omega), List.drop_of_length_le (by rw [List.length_append, beB_len, nul_len]; omega), List.nil_append]
      have hd4 : ∀ g, (hdB g).take 4 = beB 4 g := fun g => by
        unfold hdB
        rw [List.take_append_of_le_length (by rw [beB_len]; omega), List.take_of_length_le (by rw [beB_len]; omega)]
      have B60 : s.drop 60 = beB 4 h := by rw [← d60 s hsl, e, hd60]
      obtain ⟨B, hB⟩ : ∃ B, beB 4 h = B := ⟨_, rfl⟩
      have hBl : B.length = 4 := by rw [← hB]; exact beB_len 4 h
      have hBn : beN B = h := by rw [← hB, beN_beB]; exact Nat.mod_eq_of_lt hlt
      rw [hB] at B60
      by_cases c60 : c ≤ 60
      · have : s.drop 60 = zb.drop 60 := by
          rw [← hs, List.drop_append, List.drop_of_length_le (by omega), List.nil_append, hl, List.drop_drop, show c + (60 - c) = 60 by omega]
        rw [this] at B60
        have : beN B = 0 := by rw [← B60]; decide
        omega
      · obtain ⟨j, hj⟩ : ∃ j, c = 60 + j := ⟨c - 60, by omega⟩
        obtain ⟨G, hG⟩ : ∃ G, beB 4 g1 = G := ⟨_, rfl⟩
        have hGl : G.length = 4 := by rw [← hG]; exact beB_len 4 g1
        have s60 : s.drop 60 = G.take j ++ [0, 0, 0, 0].drop j := by
          rw [← hs, List.drop_append_of_le_length (by omega), List.drop_take, hd60, hG, hj, show 60 + j - 60 = j by omega]
          congr 1
          rw [← List.drop_drop]
          congr 1
        have s4 : s.take 60 = (hdB g1).take 60 := by
          rw [← hs, List.take_append_of_le_length (by omega), List.take_take, Nat.min_eq_left (by omega)]
        have t4 : (zt k s).take 4 = B := by rw [e, hd4, hB]
        have t4' : (zt k s).take 4 = [0, 0, 0, 0].take k ++ G.drop k := by
          have : s.take 4 = G := by
            rw [← hG, ← hd4 g1, show s.take 4 = (s.take 60).take 4 by rw [List.take_take]; rfl, s4, List.take_take]; rfl
          have e2 : s.drop k = G.drop k ++ s.drop 4 := by
            conv => lhs; rw [← List.take_append_drop 4 s]
            rw [this, List.drop_append_of_le_length (by omega)]
          unfold zt
          rw [e2, ← List.append_assoc, List.take_left' (by rw [List.length_append, zb_take_len hk, List.length_drop]; omega)]
          congr 1
          rcases (by omega : k = 0 ∨ k = 1 ∨ k = 2 ∨ k = 3) with rfl | rfl | rfl | rfl <;> rfl
        obtain ⟨a, b, c', d, rfl⟩ : ∃ a b c d, G = [a, b, c, d] := by
          match G, hGl with
          | [a, b, c, d], _ => exact ⟨a, b, c, d, rfl⟩
        have hBB : B = [a, b, c', d].take j ++ [0, 0, 0, 0].drop j := B60.symm.trans s60
        have := quad a b c' d k j (by omega) (by omega) (by rw [← hBB, ← t4, t4'])
        rw [← hBB] at this
        rcases this with h3 | h3
        · refine hne ?_
          have : s = hdB g1 := by
            rw [← List.take_append_drop 60 s, s4, B60, h3, ← hG, ← hd60 g1, List.take_append_drop]
          rw [this, genOf_hdB h1]
        · rw [h3] at hBn
          have : beN [0, 0, 0, 0] = 0 := by decide
          omega
  · exact hg

/-- What holds of a device, and is kept by acts and crashes, is kept by a line that is cut or not. -/
theorem LV.seq_inv (I : DV → Prop) (hc : ∀ (D : DV) cs, I D → I (D.crash cs)) : ∀ (l : List (DV → DV)) (L : LV), (∀ F ∈ l, ∀ D, I D → I (F D)) → I L.D → I (L.seq l).1.D
  | [], L, _, h => h
  | F :: l, L, hF, h => by
    have h1 : I (L.act (F L.D)).D := by
      have hf := hF F List.mem_cons_self L.D h
      unfold LV.act
      split
      · exact h
      split
      · exact hf
      split
      · exact hc _ _ hf
      · exact hc _ _ h
    rw [LV.seq_cons]
    split
    · exact seq_inv I hc l _ (fun G hG => hF G (List.mem_cons_of_mem _ hG)) h1
    · exact h1
/-- Acts that were all OK. -/
theorem LV.seq_zero : ∀ (l : List (DV → DV)) (L : LV), L.down = false → (L.seq l).2 = 0 → (L.seq l).1 = { L with D := l.foldl (fun D F => F D) L.D, acts := L.acts + l.length }
  | [], L, _, _ => rfl
  | F :: l, L, hd, h => by
    rw [LV.seq_cons] at h ⊢
    by_cases hc : (L.acts : Int) = L.cut
    · rw [if_neg (by rw [LV.code_cut hc]; decide), LV.code_cut hc] at h
      cases h
    · rw [if_pos (LV.code_live hd hc 0), LV.act_live _ hd hc] at h ⊢
      rw [seq_zero l _ (by exact hd) h]
      show LV.mk _ _ _ _ _ _ = LV.mk _ _ _ _ _ _
      congr 1
      show L.acts + 1 + l.length = L.acts + (F :: l).length
      rw [List.length_cons]
      omega
/-- Acts of which one cut the line. -/
theorem LV.seq_eight : ∀ (l : List (DV → DV)) (L : LV), L.down = false → (L.seq l).2 ≠ 0 → (L.seq l).2 = 8 ∧ (L.seq l).1.down = true ∧ ∀ k, (L.seq l).1.D.X k = none
  | [], L, _, h => absurd rfl h
  | F :: l, L, hd, h => by
    rw [LV.seq_cons] at h ⊢
    by_cases hc : (L.acts : Int) = L.cut
    · rw [if_neg (by rw [LV.code_cut hc]; decide), LV.code_cut hc, LV.act_cut _ hd hc]
      refine ⟨rfl, ?_⟩
      split <;> exact ⟨rfl, fun _ => rfl⟩
    · rw [if_pos (LV.code_live hd hc 0), LV.act_live _ hd hc] at h ⊢
      exact seq_eight l _ (by exact hd) h

/-- Blocks beside B that have no fresh bytes are as they were. -/
def OutD (B : Nat → Prop) (D D' : DV) : Prop := ∀ k, ¬ B k → D.X k = none → D'.X k = none ∧ D'.F k = D.F k
section
variable {B : Nat → Prop} {D D' D'' : DV}
theorem OutD.refl (B : Nat → Prop) (D : DV) : OutD B D D := fun _ _ h => ⟨h, rfl⟩
theorem OutD.trans (h : OutD B D D') (h2 : OutD B D' D'') : OutD B D D'' := fun k hk hx => ⟨(h2 k hk (h k hk hx).1).1, (h2 k hk (h k hk hx).1).2.trans (h k hk hx).2⟩
theorem OutD.mono (h : OutD B D D') {B' : Nat → Prop} (hB : ∀ k, B k → B' k) : OutD B' D D' := fun k hk hx => h k (fun hb => hk (hB k hb)) hx
theorem OutD.crash (B : Nat → Prop) (D : DV) (cs : List Int) : OutD B D (D.crash cs) := fun k _ hx => ⟨rfl, by show D.left cs k = _; unfold DV.left; rw [hx]⟩
theorem OutD.flush (B : Nat → Prop) (D : DV) : OutD B D D.flush := fun k _ hx => ⟨rfl, by show D.read k = _; unfold DV.read; rw [hx]; rfl⟩
theorem OutD.wr {p : Nat} (hp : B p) (s : List UInt8) (D : DV) : OutD B D (wrD p s D) := fun k hk hx => by
  unfold wrD DV.writeTo
  split
  · refine ⟨?_, rfl⟩
    show (if k = (p : Int).toNat then _ else D.X k) = none
    rw [if_neg (by rintro rfl; exact hk (by simpa using hp))]
    exact hx
  · exact ⟨hx, rfl⟩
theorem OutD.seq {l : List (DV → DV)} (L : LV) (hl : ∀ F ∈ l, ∀ D, OutD B D (F D)) : OutD B L.D (L.seq l).1.D :=
  LV.seq_inv (OutD B L.D) (fun _ cs h => h.trans (OutD.crash B _ cs)) l L (fun F hF D h => h.trans (hl F hF D)) (OutD.refl B _)
theorem OutD.wrs {p : Nat} {l : List (List UInt8)} (hp : ∀ k, p ≤ k → k < p + l.length → B k) : ∀ F ∈ wrs p l, ∀ D, OutD B D (F D) := fun F hF D => by
  obtain ⟨k, hk, rfl⟩ := List.getElem_of_mem hF
  rw [wrs_at]
  rw [wrs_len] at hk
  exact OutD.wr (hp _ (by omega) (by omega)) _ _
theorem OutD.groups (h : OutD B D D') {a n : Nat} (hB : ∀ k, a ≤ k → k < a + n → ¬ B k) (hX : ∀ k, a ≤ k → k < a + n → D.X k = none) : D'.groups a n = D.groups a n := by
  unfold DV.groups
  congr 1
  unfold DV.logs
  refine List.map_congr_left fun k hk => ?_
  rw [List.mem_range] at hk
  obtain ⟨h1, h2⟩ := h (a + 1 + k) (hB _ (by omega) (by omega)) (hX _ (by omega) (by omega))
  unfold DV.read
  rw [h1, h2, hX _ (by omega) (by omega)]
end
theorem ok_wr {D : DV} (h : D.ok) (p : Nat) (s : List UInt8) : (wrD p s D).ok := by
  unfold wrD DV.writeTo
  split
  · rename_i e
    unfold DV.writeE at e
    split at e
    · cases e
    · rename_i hb
      split at e
      · cases e
      · have hb2 : ¬ ((p : Int) < 0 ∨ (D.n : Int) ≤ p) := fun hh => hb (decide_eq_true hh)
        exact h.write (by omega) (by omega)
  · exact h
theorem ok_wrs {p : Nat} {l : List (List UInt8)} : ∀ F ∈ wrs p l, ∀ D : DV, D.ok → (F D).ok := fun F hF D h => by
  obtain ⟨k, hk, rfl⟩ := List.getElem_of_mem hF
  rw [wrs_at]
  exact ok_wr h _ _
theorem ok_fmtA {p n : Nat} : ∀ F ∈ fmtA p n, ∀ D : DV, D.ok → (F D).ok := fun F hF D h => by
  rcases List.mem_append.1 hF with hm | hm
  · exact ok_wrs F hm D h
  · rw [List.mem_singleton.1 hm]; exact h.flush
/-- A header while a Format goes on. -/
def Hz (p : Nat) (s0 : List UInt8) (D : DV) : Prop := (∃ c, c ≤ 64 ∧ D.F p = zt c s0) ∧ (D.X p = none ∨ D.X p = some zb)
theorem Hz.start {D : DV} {p : Nat} (h : D.X p = none) : Hz p (D.F p) D := ⟨⟨0, by omega, rfl⟩, .inl h⟩
section
variable {D : DV} {p : Nat} {s0 : List UInt8}
theorem zt_all {s : List UInt8} (h : s.length = 64) : zt 64 s = zb := by
  unfold zt
  rw [List.drop_of_length_le (by omega), List.append_nil]
  rfl
theorem Hz.wr (h : Hz p s0 D) (k : Nat) : Hz p s0 (wrD k [] D) := by
  unfold wrD DV.writeTo
  split
  · refine ⟨h.1, ?_⟩
    show (if p = (k : Int).toNat then _ else D.X p) = none ∨ (if p = (k : Int).toNat then _ else D.X p) = some zb
    split
    · exact .inr rfl
    · exact h.2
  · exact h
theorem Hz.flush (h : Hz p s0 D) (hs : s0.length = 64) : Hz p s0 D.flush := by
  refine ⟨?_, .inl rfl⟩
  show ∃ c, c ≤ 64 ∧ D.read p = _
  unfold DV.read
  rcases h.2 with e | e
  · rw [e]; exact h.1
  · rw [e]; exact ⟨64, by omega, (zt_all hs).symm⟩
theorem Hz.crash (h : Hz p s0 D) (cs : List Int) : Hz p s0 (D.crash cs) := by
  refine ⟨?_, .inl rfl⟩
  show ∃ c, c ≤ 64 ∧ D.left cs p = _
  obtain ⟨c, hc, e1⟩ := h.1
  rcases h.2 with e | e
  · exact ⟨c, hc, by rw [rleft_none cs e, e1]⟩
  · obtain ⟨c2, hc2, e2⟩ := rleft_some cs e
    refine ⟨max c2 c, by omega, ?_⟩
    rw [e2, e1]
    exact zt_zt hc2 hc s0
end
theorem fmtA_in {p n : Nat} {B : Nat → Prop} (h : ∀ k, p ≤ k → k < p + n → B k) : ∀ F ∈ fmtA p n, ∀ D, OutD B D (F D) := fun F hF D => by
  rcases List.mem_append.1 hF with hm | hm
  · exact OutD.wrs (by rw [List.length_replicate]; exact h) F hm D
  · rw [List.mem_singleton.1 hm]; exact OutD.flush B D
theorem Hz.fmt {p q n : Nat} {s0 : List UInt8} (hs : s0.length = 64) (L : LV) (h : Hz p s0 L.D) : Hz p s0 (L.seq (fmtA q n)).1.D :=
  LV.seq_inv (Hz p s0) (fun _ cs h => h.crash cs) _ L (fun F hF D h => by
    rcases List.mem_append.1 hF with hm | hm
    · obtain ⟨k, hk, rfl⟩ := List.getElem_of_mem hm
      rw [wrs_at]
      rw [show ((List.replicate n ([] : List UInt8))[k]'(by rw [wrs_len] at hk; exact hk)) = [] by simp]
      exact h.wr _
    · rw [List.mem_singleton.1 hm]; exact h.flush hs) h
end Go.Proofs.YtddjkbpgaenpgaaGreat

