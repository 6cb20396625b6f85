/- A region and the document's, over a line and the document's, side by side. No condition. -/
import Derived.Test.YtdhnidmeeocajaaGreatRgPk
import Derived.Test.YtdhnidmeeocajaaGreatRgD
import Derived.Test.YtdhnidmeeocajaaGreatInR
section
namespace Go.Proofs.YtdhnidmeeocajaaGreat
open Go.RowKit Go.Shelf

structure BothG (w0 w : World) (l b f x p r : Nat) (fp : Nat → Prop) (L : LV) (g c : Nat) (R : RV) : Prop where
  bl : BothL w0 w l b f x p r fp L
  rg : RgM w g l b f x R L
  rr : RRM w c p r fp R L
  gp : g ≠ p ∧ ¬ fp g ∧ g ≠ c
  cl : c ≠ l ∧ c ≠ b ∧ c ≠ f ∧ c ≠ x
  pg : ∀ k, L.P k → k ≠ g ∧ k ≠ c
  o : w0.heap.size ≤ g ∧ w0.heap.size ≤ c
section
variable {w0 w w1 w2 : World} {l b f x p r g c : Nat} {fp : Nat → Prop} {L L' : LV} {R R' : RV}
theorem notRX {g l f x k : Nat} (h : k ≠ g) (h1 : k ≠ l) (h2 : k ≠ f) (h3 : k ≠ x) : ¬ RgX g l f x k := fun hX => by
  rcases hX with h' | h' | h' | h'
  · exact h h'
  · exact h1 h'
  · exact h2 h'
  · exact h3 h'
theorem BothG.keepF (h : BothG w0 w l b f x p r fp L g c R) (hf : Frm (fun _ => False) w w1) : BothG w0 w1 l b f x p r fp L g c R :=
  ⟨h.bl.keepF hf, h.rg.keepF hf, h.rr.keepF hf, h.gp, h.cl, h.pg, h.o⟩
/-- The program's side has moved: the document's still stands. -/
theorem BothG.mid (h : BothG w0 w l b f x p r fp L g c R) (g1 : Frm (RgX g l f x) w w1) : RRM w1 c p r fp R L := by
  obtain ⟨cv, hr⟩ := h.bl.rl
  obtain ⟨a1, a2, a3, a4⟩ := h.bl.s0
  obtain ⟨c1, c2, c3, c4⟩ := h.bl.s1
  refine ⟨h.rr.rg.keep g1 (notRX h.gp.2.2.symm h.cl.1 h.cl.2.2.1 h.cl.2.2.2), ⟨cv, hr.keep g1 (notRX h.gp.1.symm a1 a3 a4) (fun k hk hX => ?_) (hr.za.imp id fun q k hk => ?_)⟩, h.rr.bp, h.rr.nf, h.rr.np⟩
  · rcases hX with rfl | rfl | rfl | rfl
    · exact h.gp.2.1 hk
    · exact c1 hk
    · exact c3 hk
    · exact c4 hk
  · have hP := (q k hk).2.2
    obtain ⟨d1, d2, d3⟩ := (h.bl.s2 k hP).1
    exact notRX (h.pg k hP).1 d1 d2 d3
/-- Both have moved to the same. -/
theorem BothG.step (h : BothG w0 w l b f x p r fp L g c R) (h1 : RgM w1 g l b f x R' L') (g1 : Frm (RgX g l f x) w w1) (hP : L'.P = L.P)
    (h2 : ∃ fp', RRM w2 c p r fp' R' L' ∧ Frm (fun k => k = c ∨ k = p ∨ fp k) w1 w2 ∧ ∀ k, fp' k → fp k ∨ w1.heap.size ≤ k) : ∃ fp', BothG w0 w2 l b f x p r fp' L' g c R' := by
  obtain ⟨fp', hr, g2, n2⟩ := h2
  obtain ⟨a1, a2, a3, a4⟩ := h.bl.s0
  obtain ⟨c1, c2, c3, c4⟩ := h.bl.s1
  have hlt := h1.lt
  have z1 := g1.size
  have z2 := g2.size
  have z0 := h.bl.frm.size
  have no : ∀ k, k < w1.heap.size → ¬ fp k → ¬ fp' k := fun k hk hn hX => by
    rcases n2 k hX with e | e
    · exact hn e
    · omega
  have nx : ∀ k, k ≠ c → k ≠ p → ¬ fp k → ¬ (k = c ∨ k = p ∨ fp k) := fun k h0 h1 h2 h => by
    rcases h with h | h | h
    · exact h0 h
    · exact h1 h
    · exact h2 h
  have xl := nx l h.cl.1.symm a1.symm c1
  have xb := nx b h.cl.2.1.symm a2.symm c2
  have xf := nx f h.cl.2.2.1.symm a3.symm c3
  have xx := nx x h.cl.2.2.2.symm a4.symm c4
  have xP : ∀ k, L'.P k → ¬ (k = c ∨ k = p ∨ fp k) := fun k hk => by
    rw [hP] at hk
    exact nx k (h.pg k hk).2 (h.bl.s2 k hk).2.1 (h.bl.s2 k hk).2.2.1
  have hln : LnM w2 l b f x L' := h1.ln.keep g2 xl xb xf xx (.inr xP)
  have hfr : Frm (fun _ => False) w0 w2 := (h.bl.frm.next g1 fun k hk hX => by
    have := h.o
    have := h.bl.o1
    rcases hX with e | e | e | e <;> omega).next g2 fun k hk hX => by
    have := h.o
    have := h.bl.o2.1
    rcases hX with e | e | e
    · omega
    · omega
    · have := h.bl.o2.2 k e
      omega
  refine ⟨fp', ⟨hln, hr.ln, h.bl.s0, ⟨no l hlt.2.1 c1, no b hlt.2.2.1 c2, no f hlt.2.2.2.1 c3, no x hlt.2.2.2.2 c4⟩, fun k hk => ?_, h.bl.o1, ⟨h.bl.o2.1, fun k hk => ?_⟩, hfr⟩,
    ⟨h1.blk.keep g2 (nx g h.gp.2.2 h.gp.1 h.gp.2.1), hln, h1.ne, h1.np, h1.rok⟩, hr, ⟨h.gp.1, no g hlt.1 h.gp.2.1, h.gp.2.2⟩, h.cl, fun k hk => h.pg k (hP ▸ hk), h.o⟩
  · rw [hP] at hk
    obtain ⟨d1, d2, d3, d4⟩ := h.bl.s2 k hk
    exact ⟨d1, d2, no k (by omega) d3, by omega⟩
  · rcases n2 k hk with e | e
    · exact h.bl.o2.2 k e
    · omega
/-- Both lines did something. -/
theorem BothG.wrote (h : BothG w0 w l b f x p r fp L g c R) (h1 : LnM w1 l b f x L') (g1 : Frm (LnX l f x) w w1) (hP : L'.P = L.P) (hc : L'.cs = L.cs) (hn : L'.D.n = L.D.n) (h2 : RLnTo p r fp L' w1 w2) : ∃ fp', BothG w0 w2 l b f x p r fp' L' g c R := by
  obtain ⟨fp', hr, g2, n2⟩ := h2
  have gR : Frm (RgX g l f x) w w1 := g1.mono fun _ _ h => .inr h
  refine h.step (h.rg.lined h1 g1 hP hc hn) gR hP ⟨fp', (h.mid gR).lined hr g2 n2 hP hc, g2.mono fun _ _ h => .inr h, n2⟩
/-- BothL.step, the document's footprint told. -/
theorem BothL.stepAt {fp' : Nat → Prop} (h : BothL w0 w l b f x p r fp L) (h1 : LnM w1 l b f x L') (g1 : Frm (LnX l f x) w w1) (hP : L'.P = L.P) (hr : RLn w2 p r fp' L') (g2 : Frm (fun k => k = p ∨ fp k) w1 w2) (n2 : ∀ k, fp' k → fp k ∨ w1.heap.size ≤ k) : BothL w0 w2 l b f x p r fp' L' := by
  obtain ⟨a1, a2, a3, a4⟩ := h.s0
  obtain ⟨c1, c2, c3, c4⟩ := h.s1
  have hlt := h1.lt
  have z1 := g1.size
  have z2 := g2.size
  have z0 := h.frm.size
  have no : ∀ k, k < w1.heap.size → ¬ fp k → ¬ fp' k := fun k hk hn hX => by
    rcases n2 k hX with e | e
    · exact hn e
    · omega
  have nx : ∀ k, k ≠ p → ¬ fp k → ¬ (k = p ∨ fp k) := fun k h1 h2 h => h.elim h1 h2
  have hfr : Frm (fun _ => False) w0 w2 := (h.frm.next g1 fun k hk hX => by
    have := h.o1
    rcases hX with e | e | e <;> omega).next g2 fun k hk hX => by
    have := h.o2.1
    rcases hX with e | e
    · omega
    · have := h.o2.2 k e
      omega
  refine ⟨h1.keep g2 (nx l a1.symm c1) (nx b a2.symm c2) (nx f a3.symm c3) (nx x a4.symm c4) (.inr fun k hk => ?_), hr, h.s0, ⟨no l hlt.1 c1, no b hlt.2.1 c2, no f hlt.2.2.1 c3, no x hlt.2.2.2 c4⟩, fun k hk => ?_, h.o1, ⟨h.o2.1, fun k hk => ?_⟩, hfr⟩
  · rw [hP] at hk
    exact nx k (h.s2 k hk).2.1 (h.s2 k hk).2.2.1
  · rw [hP] at hk
    obtain ⟨d1, d2, d3, d4⟩ := h.s2 k hk
    exact ⟨d1, d2, no k (by omega) d3, by omega⟩
  · rcases n2 k hk with e | e
    · exact h.o2.2 k e
    · omega
/-- Both have made a region. -/
theorem BothL.formed {fp' : Nat → Prop} {A n : Nat} (h : BothL w0 w l b f x p r fp L) (h1 : RgM w1 g l b f x ⟨A, n, 0, false⟩ L') (hg : w.heap.size ≤ g) (g1 : Frm (LnX l f x) w w1) (hP : L'.P = L.P) (hn2 : 2 ≤ n) (hn : n ≤ 2048)
    (hb : Blk w2 c 84 #[.pointer (some ⟨p, 0, none⟩), .int .i64 (A : Nat), .int .i64 (n : Nat), .int .i64 0, .bool false]) (hc : w1.heap.size ≤ c) (hr : RLn w2 p r fp' L') (g2 : Frm (fun k => k = p ∨ fp k) w1 w2) (n2 : ∀ k, fp' k → fp k ∨ w1.heap.size ≤ k) (n3 : ∀ k, fp' k → k < c) :
    BothG w0 w2 l b f x p r fp' L' g c ⟨A, n, 0, false⟩ := by
  have hbl := h.stepAt h1.ln g1 hP hr g2 n2
  have hlt := h1.lt
  have hpl : p < w.heap.size := by
    obtain ⟨cv, hh⟩ := h.rl
    exact hh.blk.lt
  have z0 := h.frm.size
  have z1 := g1.size
  have z2 := g2.size
  have hfl : ∀ k, fp k → k < w.heap.size := h.rl.ref.lt
  have hPk : ∀ k, L'.P k → k < w.heap.size := fun k hk => (h.s2 k (hP ▸ hk)).2.2.2
  refine ⟨hbl, ⟨h1.blk.keep g2 (fun e => ?_), hbl.ln, h1.ne, h1.np, h1.rok⟩, ⟨⟨hb, hn2, hn, by show 0 + 1 ≤ n; omega⟩, hr, by omega, fun e => Nat.lt_irrefl _ (n3 c e), .inr fun k hk => by have := hPk k hk; omega⟩, ⟨by omega, fun e => ?_, by omega⟩, ⟨by omega, by omega, by omega, by omega⟩, fun k hk => by have := hPk k hk; omega, by omega, by omega⟩
  · rcases e with e | e
    · omega
    · have := hfl g e; omega
  · rcases n2 g e with e | e
    · have := hfl g e; omega
    · omega
end
end Go.Proofs.YtdhnidmeeocajaaGreat
end
section
namespace Go.Proofs.YtdhnidmeeocajaaGreat
open Go.RowKit Go.Shelf

theorem apR_P (R : RV) (L : LV) (s : List UInt8) : (apR R L s).2.1.P = L.P := by
  unfold apR
  split
  · rfl
  · split
    · rfl
    · split
      · exact (LV.seq_same _ L (wrs_n _ _)).1
      · exact (LV.seq_same _ L (wrs_n _ _)).1
theorem flR_P (R : RV) (L : LV) : (flR R L).2.1.P = L.P := by
  unfold flR
  split
  · rfl
  · exact (LV.seq_same [DV.flush] L (fun F hF D => by rw [List.mem_singleton.1 hF]; rfl)).1
theorem slR_P (R : RV) (L : LV) (g : Nat) : (slR R L g).2.1.P = L.P := by
  unfold slR
  split
  · rfl
  · split
    · rfl
    · refine (LV.seq_same [wrD R.at_ (hdB g), DV.flush] L (fun F hF D => ?_)).1
      rcases List.mem_cons.1 hF with rfl | hF
      · exact writeTo_n D _ _
      · rw [List.mem_singleton.1 hF]; rfl
/-- What an act answers and leaves. -/
def actR (R : RV) (L : LV) (k gen : Nat) (s : List UInt8) : RV × LV × Nat := if k % 6 = 0 then apR R L s else if k % 6 = 1 then flR R L else slR R L gen
set_option maxRecDepth 100000 in
set_option maxHeartbeats 4000000 in
theorem one13_any (l b f x p r g c : Nat) (fp : Nat → Prop) (L : LV) (R : RV) (k gen : Nat) (s : List UInt8) (q m : Int) (w0 w : World) (h : BothG w0 w l b f x p r fp L g c R) (ha : L.acts ≤ 900000) (hs : s.length ≤ 1000000) (hk : k < 256) (hgen : gen < 4294967296) :
    Calls Tryz.prog 18 #[.pointer (some ⟨g, 0, none⟩), .pointer (some ⟨c, 0, none⟩), .agg #[.int .u8 (k : Nat), .string (bs s), .int .u32 (gen : Nat), .int .i64 q, .int .i64 m]] w fun e w' => e = .returned (.bool true) ∧ ∃ fp', BothG w0 w' l b f x p r fp' (actR R L k gen s).2.1 g c (actR R L k gen s).1 := by
  obtain ⟨w1, hw1⟩ : ∃ w1, w.alloc (.cells #[.int .u8 (k : Nat), .string (bs s), .int .u32 (gen : Nat), .int .i64 q, .int .i64 m] 46) = w1 := ⟨_, rfl⟩
  have g1 : Frm (fun _ => False) w w1 := by rw [← hw1]; exact (Frm.refl _ w).alloc _
  have b1 : Blk w1 w.heap.size 46 #[.int .u8 (k : Nat), .string (bs s), .int .u32 (gen : Nat), .int .i64 q, .int .i64 m] := by rw [← hw1]; exact Blk.alloc w _ _
  obtain ⟨B, hB⟩ : ∃ B, w.heap.size = B := ⟨_, rfl⟩
  rw [hB] at b1
  have hlt := h.rg.lt
  have hBX : ¬ RgX g l f x B := notRX (by omega) (by omega) (by omega) (by omega)
  have h1 := h.keepF g1
  have hP1 : L.cs.length = 0 ∨ ∀ k, L.P k → k < w1.heap.size := .inr fun k hk => (h1.bl.s2 k hk).2.2.2
  have hN : R.at_ + R.n ≤ L.D.n := h1.rg.rok.hi
  have H1 := Lib.hid h1
  have HBx := Lib.hid (fun (W : World) (gW : Frm (RgX g l f x) w1 W) => b1.keep gW hBX)
  have c0 := b1.cell 0 rfl
  have c1 := b1.cell 1 rfl
  have c2 := b1.cell 2 rfl
  obtain ⟨j, hj⟩ : ∃ j, k % 6 = j := ⟨_, rfl⟩
  have hj6 : j < 6 := by omega
  have t1 : (k : Int) % 6 = (j : Int) := by omega
  have t1' : (k : Int).tmod 6 = (j : Int) := by rw [Int.tmod_eq_emod_of_nonneg (by omega)]; exact t1
  have t3 : IntKind.u8.wrap (j : Int) = (j : Int) := IntWalk.u8_in _ (by omega)
  unfold actR
  rw [hj]
  by_cases j0 : j = 0
  · subst j0
    rw [if_pos rfl]
    have hA := rappend_any g l b f x R L s w1 h1.rg ha hs hP1
    have HRf := fun (W : World) (gW : Frm (RgX g l f x) w1 W) => refappend_any c p r fp R L s W (h1.mid gW) ha hs hN
    have hPP := apR_P R L s
    obtain ⟨⟨R', L', ec⟩, ht⟩ : ∃ t, apR R L s = t := ⟨_, rfl⟩
    rw [ht] at hA HRf hPP ⊢
    unfold RgTo at hA
    unfold RRTo at HRf
    have HA := Lib.hid hA
    have HRf := Lib.hid HRf
    have HPP := Lib.hid (show L'.P = L.P from hPP)
    have heq : ((ec : Int) == (ec : Int)) = true := by simp
    clear h h1 hlt hBX hP1 hN ht hA hPP b1 g1 hj
    go_enter Tryz.func18, Tryz.ntmps18
    go_wp2_with fail
    clear hw1 hB
    refine HA.out.mono ?_
    rintro e w2 ⟨rfl, h2, g2⟩
    have c1 := (HBx.out w2 g2).cell 1 rfl
    have HR2 := Lib.hid (HRf.out w2 g2)
    have H2 := Lib.hid (And.intro (show RgM w2 g l b f x R' L' from h2) g2)
    clear h2 g2 HA HRf
    go_wp2_with fail
    refine HR2.out.mono ?_
    rintro e w3 ⟨rfl, h3⟩
    have H3 := Lib.hid (H1.out.step H2.out.1 H2.out.2 HPP.out h3)
    clear h3 HR2
    go_wp2_with fail
    go_ret
    exact ⟨rfl, H3.out⟩
  · rw [if_neg j0]
    by_cases j1 : j = 1
    · subst j1
      rw [if_pos rfl]
      have hA := rflush13_any g l b f x R L w1 h1.rg (by omega)
      have HRf := fun (W : World) (gW : Frm (RgX g l f x) w1 W) => refflush_any c p r fp R L W (h1.mid gW) (by omega)
      have hPP := flR_P R L
      obtain ⟨⟨R', L', ec⟩, ht⟩ : ∃ t, flR R L = t := ⟨_, rfl⟩
      rw [ht] at hA HRf hPP ⊢
      unfold RgTo at hA
      unfold RRTo at HRf
      have HA := Lib.hid hA
      have HRf := Lib.hid HRf
      have HPP := Lib.hid (show L'.P = L.P from hPP)
      have heq : ((ec : Int) == (ec : Int)) = true := by simp
      clear h h1 hlt hBX hP1 hN ht hA hPP b1 g1 hj
      go_enter Tryz.func18, Tryz.ntmps18
      go_wp2_with fail
      clear hw1 hB
      refine HA.out.mono ?_
      rintro e w2 ⟨rfl, h2, g2⟩
      have HR2 := Lib.hid (HRf.out w2 g2)
      have H2 := Lib.hid (And.intro (show RgM w2 g l b f x R' L' from h2) g2)
      clear h2 g2 HA HRf
      go_wp2_with fail
      refine HR2.out.mono ?_
      rintro e w3 ⟨rfl, h3⟩
      have H3 := Lib.hid (H1.out.step H2.out.1 H2.out.2 HPP.out h3)
      clear h3 HR2
      go_wp2_with fail
      go_ret
      exact ⟨rfl, H3.out⟩
    · rw [if_neg j1]
      have hA := rseal_any g l b f x gen R L w1 h1.rg ha hgen
      have HRf := fun (W : World) (gW : Frm (RgX g l f x) w1 W) => refseal_any c p r fp R L gen W (h1.mid gW) ha hgen hN
      have hPP := slR_P R L gen
      obtain ⟨⟨R', L', ec⟩, ht⟩ : ∃ t, slR R L gen = t := ⟨_, rfl⟩
      rw [ht] at hA HRf hPP ⊢
      unfold RgTo at hA
      unfold RRTo at HRf
      have HA := Lib.hid hA
      have HRf := Lib.hid HRf
      have HPP := Lib.hid (show L'.P = L.P from hPP)
      have heq : ((ec : Int) == (ec : Int)) = true := by simp
      have e0 : ((j : Int) == 0) = false := by rw [beq_eq_false_iff_ne]; omega
      have e1 : ((j : Int) == 1) = false := by rw [beq_eq_false_iff_ne]; omega
      clear h h1 hlt hBX hP1 hN ht hA hPP b1 g1 hj
      go_enter Tryz.func18, Tryz.ntmps18
      go_wp2_with fail
      clear hw1 hB
      refine HA.out.mono ?_
      rintro e w2 ⟨rfl, h2, g2⟩
      have c2 := (HBx.out w2 g2).cell 2 rfl
      have HR2 := Lib.hid (HRf.out w2 g2)
      have H2 := Lib.hid (And.intro (show RgM w2 g l b f x R' L' from h2) g2)
      clear h2 g2 HA HRf
      go_wp2_with fail
      refine HR2.out.mono ?_
      rintro e w3 ⟨rfl, h3⟩
      have H3 := Lib.hid (H1.out.step H2.out.1 H2.out.2 HPP.out h3)
      clear h3 HR2
      go_wp2_with fail
      go_ret
      exact ⟨rfl, H3.out⟩
end Go.Proofs.YtdhnidmeeocajaaGreat
end
