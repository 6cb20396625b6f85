/- What Read of a region answers; regions and lines that are none. No condition. -/
import Derived.Test.YtddjkbpgaenpgaaGreatRgT
section
namespace Go.Proofs.YtddjkbpgaenpgaaGreat
open Go.RowKit Go.Shelf

def rdR (L : LV) (q m : Int) : Nat × List (List UInt8) × Nat := if rgC L.D.n q m = 0 then (if L.down then (0, [], 8) else (genOf (L.D.read q.toNat), L.D.groups q.toNat m.toNat, 0)) else (0, [], rgC L.D.n q m)
def ReadTo (p : Nat × List (List UInt8) × Nat) (w : World) (e : Ending) (w' : World) : Prop := ∃ v, e = .returned (.tuple #[.int .u32 (p.1 : Nat), v, .int .i64 (p.2.2 : Nat)]) ∧ NewL w w' v p.2.1
set_option maxRecDepth 100000 in
set_option maxHeartbeats 4000000 in
theorem rgread_any (l b f x : Nat) (L : LV) (q m : Int) (w : World) (h : LnM w l b f x L) (hq : Z64 q) (hm : Z64 m) :
    Calls Tryz.prog 33 #[.pointer (some ⟨l, 0, none⟩), .int .i64 q, .int .i64 m] w (ReadTo (rdR L q m) w) := by
  have HLD := load_any l b f x L q m w h hq hm
  obtain ⟨ans, hans⟩ : ∃ ans, rdR L q m = ans := ⟨_, rfl⟩
  rw [hans]
  have HANS := Lib.hid hans
  clear hans
  unfold ReadTo
  by_cases hok : rgC L.D.n q m = 0 ∧ L.down = false
  · have hld : ldR L q m = (L.D.alls q.toNat m.toNat, 0) := by unfold ldR; rw [if_pos hok.1, if_neg (by rw [hok.2]; exact Bool.false_ne_true)]
    have hrd : rdR L q m = (genOf (L.D.read q.toNat), L.D.groups q.toNat m.toNat, 0) := by unfold rdR; rw [if_pos hok.1, if_neg (by rw [hok.2]; exact Bool.false_ne_true)]
    rw [hld] at HLD
    rw [HANS.out] at hrd
    obtain ⟨h1, h2, h3, h4⟩ := rgC_ok hok.1
    have hN := h.dev.ok.hi
    have h64 : ∀ s ∈ L.D.alls q.toNat m.toNat, s.length = 64 := fun s hs => by
      unfold DV.alls at hs
      obtain ⟨k, _, rfl⟩ := List.mem_map.1 hs
      exact h.dev.ok.rlen _
    obtain ⟨A, hA⟩ : ∃ A, q.toNat = A := ⟨_, rfl⟩
    obtain ⟨n, hn⟩ : ∃ n, m.toNat = n := ⟨_, rfl⟩
    rw [hA, hn] at HLD hrd h64
    have hn2 : 2 ≤ n ∧ n ≤ 2048 := by omega
    obtain ⟨l0, hl0⟩ : ∃ l0, L.D.alls A n = l0 := ⟨_, rfl⟩
    have hll : l0.length = n := by rw [← hl0]; exact DV.alls_len _ _ _
    have hl1 : l0.drop 1 = L.D.logs A n := by rw [← hl0]; exact DV.alls_drop _ _ _
    have hg0 : ∀ (hh : 0 < l0.length), l0[0] = L.D.read A := fun hh => by subst hl0; exact DV.alls_at L.D A n 0 (by omega)
    rw [hl0] at HLD h64
    have HLD := Lib.hid HLD
    have HQ := Lib.hid (And.intro hrd (And.intro h64 (And.intro hll (And.intro hl1 (And.intro hg0 hn2)))))
    clear h hok hld hrd h1 h2 h3 h4 hN hA hn hl0 h64 hll hl1 hg0 hq hm
    go_enter Tryz.func33, Tryz.ntmps33
    go_wp2_with fail
    refine HLD.out.mono ?_
    rintro e w1 ⟨v, rfl, hnew⟩
    obtain ⟨a, cap, rfl, hc1, hc2⟩ := (OwnS.reads hnew.own).slice
    obtain ⟨g, off, rfl, hg, c0⟩ := Strs.at (OwnS.reads hnew.own) 0 (by rw [HQ.out.2.2.1]; have := HQ.out.2.2.2.2.2; omega)
    rw [HQ.out.2.2.2.2.1, Nat.add_zero] at c0
    have hbeh := Strs.behind (OwnS.reads hnew.own) 1 (by rw [HQ.out.2.2.1]; have := HQ.out.2.2.2.2.2; omega)
    rw [HQ.out.2.2.2.1] at hbeh
    have hll := HQ.out.2.2.1
    rw [hll] at hbeh hc1
    unfold maxLen at hc2
    have hrl : (L.D.read A).length = 64 := by
      have h0 : 0 < l0.length := by rw [hll]; have := HQ.out.2.2.2.2.2; omega
      rw [← HQ.out.2.2.2.2.1 h0]; exact HQ.out.2.1 _ (List.getElem_mem h0)
    have hlg64 : ∀ s ∈ L.D.logs A n, s.length = 64 := fun s hs => by rw [← HQ.out.2.2.2.1] at hs; exact HQ.out.2.1 s (List.mem_of_mem_drop hs)
    have hlgl : (L.D.logs A n).length ≤ 65535 := by unfold DV.logs; rw [List.length_map, List.length_range]; have := HQ.out.2.2.2.2.2; omega
    have HG := Lib.hid (fun W => generation_any (L.D.read A) W hrl)
    have HW := Lib.hid (fun v (W : World) (hv : Strs W v (L.D.logs A n)) => whole_any v _ W hv hlg64 hlgl)
    have HN := Lib.hid (And.intro hnew hbeh)
    have hn2 := HQ.out.2.2.2.2.2
    obtain ⟨s0, hs0⟩ : ∃ s0, L.D.read A = s0 := ⟨_, rfl⟩
    rw [hs0] at c0 HG
    have HS0 := Lib.hid hs0
    rw [hll]
    have h0n : ¬ cap = 1 := by omega
    have hp1 : 0 < n := by omega
    have hp2 : (0 : Int) < (n : Int) := by omega
    have hp3 : 1 ≤ n := by omega
    have hp4 : (1 : Int) ≤ (n : Int) := by omega
    clear hnew hbeh hll hrl hlg64 hlgl hs0 HLD
    go_wp2_with fail
    refine wp_region_tail 6 3 (fun w' => w'.cell? ⟨g, off, none⟩ = some (.string (bs s0)) ∧ Frm (fun _ => False) w1 w') (by kernel_rfl) rfl rfl (by kernel_rfl) (by kernel_rfl) (by kernel_rfl) (by kernel_rfl) (⟨c0, (Frm.refl _ w1).drew⟩) ?_
    repeat' first
      | (refine CanonL.skip (by rfl) ?_; (try simp only [Act.put, List.setIfInBounds_toArray, List.set_cons_zero, List.set_cons_succ]))
      | (refine CanonL.callQ (by rfl) (by rfl) ?_ HG ?_ ?_; (focus (intro w; go_simp; (try (with_reducible rfl)); done)); (focus (rintro w ww hs gg; exact ⟨dFrm_cell gg hs.1, hs.2.trans gg⟩)); (try simp only [Act.put, List.setIfInBounds_toArray, List.set_cons_zero, List.set_cons_succ]))
      | (refine CanonL.val (v := ?_) (by rfl) ?_ ?_; rotate_left 1; (focus (intro w hSw; (try dsimp only at hSw); go_simp; (try (with_reducible rfl)); done)); (try simp only [Act.put, List.setIfInBounds_toArray, List.set_cons_zero, List.set_cons_succ]))
    refine CanonL.done ?_
    intro w9 hS9
    obtain ⟨_, g9⟩ := hS9
    have hbeh : Strs w9 (.slice (some ⟨g, off + 1, none⟩) (n - 1) (cap - 1)) (L.D.logs A n) := by
      have := HN.out.2.keepF g9
      rw [if_neg h0n] at this
      exact this
    have HWH := Lib.hid (HW.out _ w9 hbeh)
    have G9 := Lib.hid (HN.out.1.frm.trans g9)
    clear hbeh g9 c0 h0n
    refine wpTail.cons rfl rfl (fun K hK => ?_)
    unfold Oper.wp execOp
    go_simp
    with_reducible refine HWH.out.mono ?_
    rintro e w10 ⟨v', rfl, hn10⟩
    have HN10 := Lib.hid hn10
    obtain ⟨a2, cap2, rfl, _, _⟩ := (OwnS.reads hn10.own).slice
    clear hn10 HWH
    refine hK _ _ ?_
    clear hK K
    try simp only [Act.put, List.setIfInBounds_toArray, List.set_cons_zero, List.set_cons_succ]
    refine wpTail.cons rfl rfl (fun K hK => ?_)
    unfold Oper.wp execOp
    go_simp
    refine hK _ _ ?_
    clear hK K
    try simp only [Act.put, List.setIfInBounds_toArray, List.set_cons_zero, List.set_cons_succ]
    refine wpTail.cons rfl rfl (fun K hK => ?_)
    unfold Oper.wp execOp
    go_simp
    refine hK _ _ ?_
    clear hK K
    try simp only [Act.put, List.setIfInBounds_toArray, List.set_cons_zero, List.set_cons_succ]
    refine wpTail.cons rfl rfl (fun K hK => ?_)
    unfold Oper.wp execOp
    go_simp
    refine hK _ _ ?_
    clear hK K
    try simp only [Act.put, List.setIfInBounds_toArray, List.set_cons_zero, List.set_cons_succ]
    refine wpTail.done ?_
    go_wp2_with fail
    go_ret3
    rw [HQ.out.1, HS0.out]
    exact ⟨_, rfl, HN10.out.own, fun g hg => Nat.le_trans G9.out.size (HN10.out.new g hg), G9.out.trans HN10.out.frm⟩
  · have hld : (ldR L q m).1 = [] ∧ ((ldR L q m).2 = 2 ∨ (ldR L q m).2 = 8) ∧ rdR L q m = (0, [], (ldR L q m).2) := by
      unfold ldR rdR
      by_cases hc : rgC L.D.n q m = 0
      · have hd : L.down = true := by
          cases hd : L.down
          · exact absurd ⟨hc, hd⟩ hok
          · rfl
        rw [if_pos hc, if_pos hd, if_pos hc, if_pos hd]
        exact ⟨rfl, .inr rfl, rfl⟩
      · rw [if_neg hc, if_neg hc]
        refine ⟨rfl, .inl ?_, rfl⟩
        show rgC L.D.n q m = 2
        unfold rgC at hc ⊢
        split
        · rfl
        · rename_i hn
          rw [if_neg hn] at hc
          exact absurd rfl hc
    obtain ⟨h1, h2, h3⟩ := hld
    rw [HANS.out] at h3
    obtain ⟨c, hc⟩ : ∃ c, (ldR L q m).2 = c := ⟨_, rfl⟩
    rw [h1, hc] at HLD
    rw [hc] at h2 h3
    have HLD := Lib.hid HLD
    have H3 := Lib.hid h3
    clear h hok h1 h3 hc hq hm
    rcases h2 with rfl | rfl
    all_goals
      go_enter Tryz.func33, Tryz.ntmps33
      go_wp2_with fail
      refine HLD.out.mono ?_
      rintro e w1 ⟨v, rfl, hnew⟩
      obtain ⟨a, cap, rfl, _, _⟩ := (OwnS.reads hnew.own).slice
      have HF := Lib.hid hnew.frm
      clear hnew HLD
      go_wp2_with fail
      go_ret3
      rw [H3.out]
      exact ⟨_, rfl, OwnS.nil_ _, (fun g hg => by cases hg), HF.out⟩
end Go.Proofs.YtddjkbpgaenpgaaGreat
end
section
namespace Go.Proofs.YtddjkbpgaenpgaaGreat

theorem nb_one (s : List UInt8) : nb [s] = needs s.length := Nat.add_zero _
theorem blksAll_snoc (gs : List (List UInt8)) (s : List UInt8) (i : Nat) : blksAll i (gs ++ [s]) = blksAll i gs ++ blks (i + nb gs) s := by
  rw [blksAll_append]
  show _ ++ (blks (i + nb gs) s ++ []) = _
  rw [List.append_nil]
/-- A region of a line that lives: the groups gs were appended, the first fc log blocks are firm, gen was sealed. -/
structure StR (R : RV) (L : LV) (gs : List (List UInt8)) (fc gen : Nat) : Prop where
  bad : R.bad = false
  live : L.down = false
  used : R.used = nb gs
  n256 : R.n ≤ 256
  inv : Live L.D R.at_ R.n (blksAll 1 gs) fc gen
/-- A region of a line that was cut. -/
structure DdR (R : RV) (L : LV) (gs : List (List UInt8)) (fc : Nat) (G : Nat → Prop) : Prop where
  bad : R.bad = true
  down : L.down = true
  n256 : R.n ≤ 256
  inv : Dead L.D R.at_ R.n (blksAll 1 gs) fc G
section
variable {R : RV} {L : LV} {gs : List (List UInt8)} {fc gen : Nat} {G : Nat → Prop}
theorem StR.room (h : StR R L gs fc gen) : R.used + 1 ≤ R.n := by have := h.inv.len; rw [blksAll_len] at this; have := h.used; omega
theorem apR_st (h : StR R L gs fc gen) (s : List UInt8) :
    (R.left < needs s.length ∧ apR R L s = (R, L, 7)) ∨
    (needs s.length ≤ R.left ∧ ∃ L', apR R L s = (⟨R.at_, R.n, R.used + needs s.length, false⟩, L', 0) ∧ L' = (L.seq (wrs (R.at_ + 1 + R.used) (blks (R.used + 1) s))).1 ∧ StR ⟨R.at_, R.n, R.used + needs s.length, false⟩ L' (gs ++ [s]) fc gen) ∨
    (needs s.length ≤ R.left ∧ ∃ L', apR R L s = (⟨R.at_, R.n, R.used, true⟩, L', 8) ∧ (L.seq (wrs (R.at_ + 1 + R.used) (blks (R.used + 1) s))).2 = 8 ∧ DdR ⟨R.at_, R.n, R.used, true⟩ L' (gs ++ [s]) fc (· = gen)) := by
  have hb : ¬ R.bad = true := by rw [h.bad]; exact Bool.false_ne_true
  by_cases hf : R.left < needs s.length
  · exact .inl ⟨hf, by unfold apR; rw [if_neg hb, if_pos hf]⟩
  · right
    have hlen := h.room
    have hfit : R.used + needs s.length + 1 ≤ R.n := by unfold RV.left at hf; omega
    have hw := Live.writes h.n256 (blks (R.used + 1) s) (blksAll 1 gs) L h.live h.inv (by rw [blksAll_len, blks_len, ← h.used]; omega) (fun j t e => by
      rw [blksAll_len, ← h.used]
      have hj : j < needs s.length := by have := (List.getElem?_eq_some_iff.1 e).1; rwa [blks_len] at this
      rw [blks_at _ _ _ hj] at e
      obtain rfl := Option.some.inj e
      exact ⟨_, _, pieceAt_len s j, by unfold blk; rw [show R.used + 1 + j = R.used + j + 1 by omega]⟩)
    rw [blksAll_len, ← h.used] at hw
    have hsn : blksAll 1 gs ++ blks (R.used + 1) s = blksAll 1 (gs ++ [s]) := by rw [blksAll_snoc, h.used, Nat.add_comm 1]
    rw [hsn] at hw
    have hnb : R.used + needs s.length = nb (gs ++ [s]) := by rw [nb_append, nb_one, h.used]
    rcases hw with ⟨h1, h2, h3⟩ | ⟨h1, h2, h3⟩
    · exact .inl ⟨by omega, _, by unfold apR; rw [if_neg hb, if_neg hf, if_pos h1], rfl, ⟨rfl, h2, hnb, h.n256, h3⟩⟩
    · exact .inr ⟨by omega, _, by unfold apR; rw [if_neg hb, if_neg hf, if_neg (by rw [h1]; decide), h1], h1, ⟨rfl, h2, h.n256, h3⟩⟩
theorem flR_st (h : StR R L gs fc gen) :
    (∃ L', flR R L = (R, L', 0) ∧ L' = (L.seq [DV.flush]).1 ∧ StR R L' gs (nb gs) gen) ∨
    (∃ L', flR R L = (⟨R.at_, R.n, R.used, true⟩, L', 8) ∧ (L.seq [DV.flush]).2 = 8 ∧ DdR ⟨R.at_, R.n, R.used, true⟩ L' gs fc (· = gen)) := by
  have hb : ¬ R.bad = true := by rw [h.bad]; exact Bool.false_ne_true
  have hw := Live.flushed h.n256 L h.live h.inv
  rw [blksAll_len] at hw
  have hR : (⟨R.at_, R.n, R.used, false⟩ : RV) = R := by have := h.bad; cases R; simp only at this; rw [this]
  rcases hw with ⟨h1, h2, h3⟩ | ⟨h1, h2, h3⟩
  · exact .inl ⟨_, by unfold flR; rw [if_neg hb, h1]; show ((⟨R.at_, R.n, R.used, false⟩ : RV), _, _) = _; rw [hR], rfl, ⟨h.bad, h2, h.used, h.n256, h3⟩⟩
  · exact .inr ⟨_, by unfold flR; rw [if_neg hb, h1]; rfl, h1, ⟨rfl, h2, h.n256, h3⟩⟩
theorem slR_st (h : StR R L gs fc gen) {g : Nat} (hg0 : g ≠ 0) (hg : g < 4294967296) :
    (∃ L', slR R L g = (R, L', 0) ∧ L' = (L.seq [wrD R.at_ (hdB g), DV.flush]).1 ∧ StR R L' gs (nb gs) g) ∨
    (∃ L', slR R L g = (⟨R.at_, R.n, R.used, true⟩, L', 8) ∧ (L.seq [wrD R.at_ (hdB g), DV.flush]).2 = 8 ∧ DdR ⟨R.at_, R.n, R.used, true⟩ L' gs fc (fun x => x = 0 ∨ x = gen ∨ x = g)) := by
  have hb : ¬ R.bad = true := by rw [h.bad]; exact Bool.false_ne_true
  have hw := Live.sealing h.n256 hg L h.live h.inv
  rw [blksAll_len] at hw
  have hR : (⟨R.at_, R.n, R.used, false⟩ : RV) = R := by have := h.bad; cases R; simp only at this; rw [this]
  rcases hw with ⟨h1, h2, h3⟩ | ⟨h1, h2, h3⟩
  · exact .inl ⟨_, by unfold slR; rw [if_neg hg0, if_neg hb, h1]; show ((⟨R.at_, R.n, R.used, false⟩ : RV), _, _) = _; rw [hR], rfl, ⟨h.bad, h2, h.used, h.n256, h3⟩⟩
  · exact .inr ⟨_, by unfold slR; rw [if_neg hg0, if_neg hb, h1]; rfl, h1, ⟨rfl, h2, h.n256, h3⟩⟩
theorem DdR.ap (h : DdR R L gs fc G) (s : List UInt8) : apR R L s = (R, L, 17) := by unfold apR; rw [if_pos h.bad]
theorem DdR.fl (h : DdR R L gs fc G) : flR R L = (R, L, 17) := by unfold flR; rw [if_pos h.bad]
theorem DdR.sl (h : DdR R L gs fc G) {g : Nat} (hg : g ≠ 0) : slR R L g = (R, L, 17) := by unfold slR; rw [if_neg hg, if_pos h.bad]
theorem rgC_zero {N A n : Nat} (h1 : 2 ≤ n) (h2 : n ≤ 65536) (h3 : A + n ≤ N) : rgC N (A : Int) (n : Int) = 0 := by unfold rgC; rw [if_neg (by omega)]
theorem rdR_live {A n : Nat} {L' : LV} (hd : L'.down = false) (h1 : 2 ≤ n) (h2 : n ≤ 65536) (h3 : A + n ≤ L'.D.n) : rdR L' (A : Int) (n : Int) = (genOf (L'.D.read A), L'.D.groups A n, 0) := by
  unfold rdR
  rw [if_pos (rgC_zero h1 h2 h3), if_neg (by rw [hd]; exact Bool.false_ne_true), Int.toNat_natCast, Int.toNat_natCast]
/-- A region is read, over whatever line that lives and leads to the device. -/
theorem StR.read (h : StR R L gs fc gen) (hn : 2 ≤ R.n) {L' : LV} (hd : L'.down = false) (hD : L'.D = L.D) : rdR L' (R.at_ : Int) (R.n : Int) = (gen, gs, 0) := by
  have hc := h.inv.contents (by have := h.n256; omega)
  rw [rdR_live hd hn (by have := h.n256; omega) (by rw [hD]; exact h.inv.inn), hD, hc.1, hc.2]
theorem DdR.read (h : DdR R L gs fc G) (hn : 2 ≤ R.n) {L' : LV} (hd : L'.down = false) (hD : L'.D = L.D) : ∃ g m, G g ∧ m ≤ gs.length ∧ (∀ s, s ≤ gs.length → nb (gs.take s) ≤ fc → s ≤ m) ∧ rdR L' (R.at_ : Int) (R.n : Int) = (g, gs.take m, 0) := by
  obtain ⟨h1, m, h2, h3, h4⟩ := h.inv.contents (by have := h.n256; omega)
  exact ⟨_, m, h1, h2, h4, by rw [rdR_live hd hn (by have := h.n256; omega) (by rw [hD]; exact h.inv.inn), hD, h3]⟩
/-- A line that lives is cut without an act. -/
theorem StR.blow (h : StR R L gs fc gen) : DdR ⟨R.at_, R.n, R.used, true⟩ L.blow gs fc (· = gen) := by
  rw [LV.blow_live h.live]
  exact ⟨rfl, rfl, h.n256, h.inv.crash h.n256 L.cs⟩
theorem DdR.blow (h : DdR R L gs fc G) : DdR R L.blow gs fc G := by
  have : L.blow = L := by unfold LV.blow; rw [if_pos h.down]
  rw [this]; exact h
/-- Behind a Format. -/
theorem fmtR_st {A n : Nat} (hd : L.down = false) (hc : ∀ k, k < n + 1 → ((L.acts + k : Nat) : Int) ≠ L.cut) (hok : L.D.ok) (h1 : 2 ≤ n) (h2 : n ≤ 256) (h3 : A + n ≤ L.D.n) :
    (fmtR L (A : Int) (n : Int)).2 = 0 ∧ (fmtR L (A : Int) (n : Int)).1.acts = L.acts + (n + 1) ∧ (fmtR L (A : Int) (n : Int)).1.cut = L.cut ∧ (fmtR L (A : Int) (n : Int)).1.cs = L.cs ∧ (fmtR L (A : Int) (n : Int)).1.P = L.P ∧ (fmtR L (A : Int) (n : Int)).1.D.n = L.D.n ∧
    (∀ k, (fmtR L (A : Int) (n : Int)).1.D.read k = if A ≤ k ∧ k < A + n then zb else L.D.read k) ∧ StR ⟨A, n, 0, false⟩ (fmtR L (A : Int) (n : Int)).1 [] 0 0 := by
  have e : fmtR L (A : Int) (n : Int) = ({ L with D := (fmtA A n).foldl (fun D F => F D) L.D, acts := L.acts + (fmtA A n).length }, 0) := by
    unfold fmtR
    rw [if_pos (rgC_zero h1 (by omega) h3), Int.toNat_natCast, Int.toNat_natCast]
    exact LV.seq_free _ _ hd (fun k hk => hc k (by rwa [fmtA_len] at hk))
  obtain ⟨l1, l2, l3, l4⟩ := fmt_live hok h3 h1
  rw [e]
  exact ⟨rfl, by show L.acts + (fmtA A n).length = _; rw [fmtA_len], rfl, rfl, rfl, l2, l4, ⟨rfl, hd, rfl, h2, l1⟩⟩
/-- A line that no act cuts. -/
def Uc (L : LV) : Prop := L.down = false ∧ L.cut < 0
theorem Uc.seq {L : LV} (h : Uc L) (l : List (DV → DV)) : (L.seq l).2 = 0 ∧ Uc (L.seq l).1 ∧ (L.seq l).1.acts = L.acts + l.length ∧ (L.seq l).1.cs = L.cs ∧ (L.seq l).1.P = L.P ∧ (L.seq l).1.D = l.foldl (fun D F => F D) L.D := by
  rw [LV.seq_free l L h.1 (fun k _ => by have := h.2; omega)]
  exact ⟨rfl, ⟨h.1, h.2⟩, rfl, rfl, rfl, rfl⟩
end
end Go.Proofs.YtddjkbpgaenpgaaGreat
end
