/- A line of the program and one of the document, side by side; what one and alike answer. No condition. -/
import Derived.Test.YtdhngbfigklaoaaLnL
import Derived.Test.YtdhngbfigklaoaaLawLnCuts
namespace Go.Proofs.Ytdhngbfigklaoaa
open Go.RowKit Go.Shelf

structure BothL (w0 w : World) (l b f x p r : Nat) (fp : Nat → Prop) (L : LV) : Prop where
  ln : LnM w l b f x L
  rl : RLn w p r fp L
  s0 : p ≠ l ∧ p ≠ b ∧ p ≠ f ∧ p ≠ x
  s1 : ¬ fp l ∧ ¬ fp b ∧ ¬ fp f ∧ ¬ fp x
  s2 : ∀ g, L.P g → (g ≠ l ∧ g ≠ f ∧ g ≠ x) ∧ g ≠ p ∧ ¬ fp g ∧ g < w.heap.size
  o1 : w0.heap.size ≤ l ∧ w0.heap.size ≤ f ∧ w0.heap.size ≤ x
  o2 : w0.heap.size ≤ p ∧ ∀ k, fp k → w0.heap.size ≤ k
  frm : Frm (fun _ => False) w0 w
section
variable {w0 w w1 w2 : World} {l b f x p r : Nat} {fp : Nat → Prop} {L L' : LV}
theorem BothL.keepF (h : BothL w0 w l b f x p r fp L) (g : Frm (fun _ => False) w w1) : BothL w0 w1 l b f x p r fp L :=
  ⟨h.ln.keepF g, h.rl.keepF g, h.s0, h.s1, fun k hk => ⟨(h.s2 k hk).1, (h.s2 k hk).2.1, (h.s2 k hk).2.2.1, Nat.lt_of_lt_of_le (h.s2 k hk).2.2.2 g.size⟩, h.o1, h.o2, h.frm.trans g⟩
theorem BothL.mid (h : BothL w0 w l b f x p r fp L) (g1 : Frm (LnX l f x) w w1) : RLn w1 p r fp L := by
  obtain ⟨cv, hr⟩ := h.rl
  obtain ⟨a1, a2, a3, a4⟩ := h.s0
  obtain ⟨c1, c2, c3, c4⟩ := h.s1
  refine ⟨cv, hr.keep g1 (notX a1 a3 a4) (fun k hk hX => ?_) (hr.za.imp id fun q g hg => ?_)⟩
  · rcases hX with rfl | rfl | rfl
    · exact c1 hk
    · exact c3 hk
    · exact c4 hk
  · obtain ⟨d1, d2, d3⟩ := (h.s2 g (q g hg).2.2).1
    exact notX d1 d2 d3
theorem BothL.step (h : BothL w0 w l b f x p r fp L) (h1 : LnM w1 l b f x L') (g1 : Frm (LnX l f x) w w1) (hP : L'.P = L.P) (h2 : RLnTo p r fp L' w1 w2) : ∃ fp', BothL w0 w2 l b f x p r fp' L' := by
  obtain ⟨fp', hr, g2, n2⟩ := h2
  obtain ⟨a1, a2, a3, a4⟩ := h.s0
  obtain ⟨c1, c2, c3, c4⟩ := h.s1
  have hlt := h1.lt
  have z1 := g1.size
  have z2 := g2.size
  have z0 := h.frm.size
  have no : ∀ k, k < w1.heap.size → ¬ fp k → ¬ fp' k := fun k hk hn hX => by
    rcases n2 k hX with e | e
    · exact hn e
    · omega
  have nx : ∀ k, k ≠ p → ¬ fp k → ¬ (k = p ∨ fp k) := fun k h1 h2 h => h.elim h1 h2
  refine ⟨fp', h1.keep g2 (nx l a1.symm c1) (nx b a2.symm c2) (nx f a3.symm c3) (nx x a4.symm c4) (.inr fun g hg => ?_), hr, h.s0, ⟨no l hlt.1 c1, no b hlt.2.1 c2, no f hlt.2.2.1 c3, no x hlt.2.2.2 c4⟩, fun g hg => ?_, h.o1, ⟨h.o2.1, fun k hk => ?_⟩, ?_⟩
  · rw [hP] at hg
    exact nx g (h.s2 g hg).2.1 (h.s2 g hg).2.2.1
  · rw [hP] at hg
    obtain ⟨d1, d2, d3, d4⟩ := h.s2 g hg
    exact ⟨d1, d2, no g (by omega) d3, by omega⟩
  · rcases n2 k hk with e | e
    · exact h.o2.2 k e
    · omega
  · refine (h.frm.toNewX g1 h.o1).next g2 fun k hk hX => ?_
    rcases hX with e | e
    · have := h.o2.1; omega
    · have := h.o2.2 k e; omega
end
/-- What one does to a line. -/
def LV.one (L : LV) (x : A3) : LV := if x.k % 5 < 3 then L.act (L.D.a3 x) else if x.k % 5 = 4 ∧ x.q % 7 = 0 then L.blow else L
theorem act_P (L : LV) (D' : DV) : (L.act D').P = L.P ∧ (L.act D').acts ≤ L.acts + 1 := by
  unfold LV.act
  split
  · exact ⟨rfl, Nat.le_succ _⟩
  split
  · exact ⟨rfl, Nat.le_refl _⟩
  split <;> exact ⟨rfl, Nat.le_refl _⟩
theorem blow_P (L : LV) : L.blow.P = L.P ∧ L.blow.acts = L.acts := by
  unfold LV.blow
  split <;> exact ⟨rfl, rfl⟩
theorem one_P (L : LV) (x : A3) : (L.one x).P = L.P ∧ (L.one x).acts ≤ L.acts + 1 := by
  unfold LV.one
  split
  · exact act_P _ _
  split
  · exact ⟨(blow_P L).1, by rw [(blow_P L).2]; exact Nat.le_succ _⟩
  · exact ⟨rfl, Nat.le_succ _⟩
set_option maxRecDepth 100000 in
set_option maxHeartbeats 8000000 in
theorem one12_any (l b f x p r : Nat) (fp : Nat → Prop) (L : LV) (y : A3) (w0 w : World) (h : BothL w0 w l b f x p r fp L) (ha : L.acts ≤ 1000000) :
    Calls Try.prog 13 #[.pointer (some ⟨l, 0, none⟩), .pointer (some ⟨p, 0, none⟩), .agg #[.int .u8 (y.k : Nat), .int .i64 y.q, .string (bs y.s)]] w fun e w' => e = .returned (.bool true) ∧ ∃ fp', BothL w0 w' l b f x p r fp' (L.one y) := by
  have hy := And.intro y.hq y.hs
  have hk256 := y.hk
  obtain ⟨m, hmm⟩ : ∃ m, y.k % 5 = m := ⟨_, rfl⟩
  have hm5 : m = 0 ∨ m = 1 ∨ m = 2 ∨ m = 3 ∨ m = 4 := by omega
  have gw := (Frm.refl (fun _ => False) w).alloc (.cells #[.int .u8 (y.k : Nat), .int .i64 y.q, .string (bs y.s)] 38)
  obtain ⟨W, hW⟩ : ∃ W, w.alloc (.cells #[.int .u8 (y.k : Nat), .int .i64 y.q, .string (bs y.s)] 38) = W := ⟨_, rfl⟩
  have bW : Blk W w.heap.size 38 #[.int .u8 (y.k : Nat), .int .i64 y.q, .string (bs y.s)] := by rw [← hW]; exact Blk.alloc w _ _
  rw [hW] at gw
  have hlt := h.ln.lt
  have hpl := h.rl.lt
  have HB := Lib.hid (And.intro (h.keepF gw) (And.intro bW (And.intro hlt hpl)))
  have HY := Lib.hid (And.intro hy (And.intro hmm ha))
  have k0 := bW.cell 0 rfl
  have k1 := bW.cell 1 rfl
  have k2 := bW.cell 2 rfl
  clear h hy gw bW hlt hpl hmm ha
  rcases hm5 with rfl | rfl | rfl | rfl | rfl
  · have t1 : (y.k : Int) % 5 = 0 := by have := HY.out.2.1; omega
    have t1' : (y.k : Int).tmod 5 = 0 := by rw [Int.tmod_eq_emod_of_nonneg (by omega)]; exact t1
    have eo : L.one y = L.act (L.D.writeTo y.q y.s) := by
      unfold LV.one DV.a3
      rw [if_pos (by rw [HY.out.2.1]; decide), if_neg (by rw [HY.out.2.1]; decide)]
    have EO := Lib.hid eo
    have hE := lwrite_any l b f x L y.q y.s W HB.out.1.ln HY.out.2.2 HY.out.1.1 HY.out.1.2
    obtain ⟨cc, hcc⟩ : ∃ cc, L.code (L.D.writeE y.q y.s) = cc := ⟨_, rfl⟩
    rw [hcc] at hE
    have HE := Lib.hid hE
    have HCC := Lib.hid hcc
    clear eo hE hcc
    go_enter Try.func13, Try.ntmps13
    go_wp2_with fail
    refine HE.out.mono ?_
    rintro e wa ⟨rfl, h1, g1⟩
    have hR := rlwrite_any p r fp L y.q y.s wa (HB.out.1.mid g1) HY.out.2.2 HY.out.1.1 HY.out.1.2
    rw [HCC.out] at hR
    have HR := Lib.hid hR
    have kb := HB.out.2.1.keep g1 (by have := HB.out.2.2; unfold LnX; omega)
    have H1 := Lib.hid (And.intro h1 g1)
    have j1 := kb.cell 1 rfl
    have j2 := kb.cell 2 rfl
    have hcz : ((cc : Int) == (cc : Int)) = true := by rw [beq_iff_eq]
    clear h1 g1 hR kb HE k0 k1 k2 hW
    go_wp2_with fail
    refine HR.out.mono ?_
    rintro e wb ⟨rfl, h2⟩
    have HS := Lib.hid (HB.out.1.step H1.out.1 H1.out.2 (act_P _ _).1 h2)
    clear h2 HR j1 j2
    go_wp2_with fail
    go_ret
    refine ⟨rfl, ?_⟩
    rw [EO.out]
    exact HS.out
  · have t1 : (y.k : Int) % 5 = 1 := by have := HY.out.2.1; omega
    have t1' : (y.k : Int).tmod 5 = 1 := by rw [Int.tmod_eq_emod_of_nonneg (by omega)]; exact t1
    have eo : L.one y = L.act (L.D.writeTo y.q y.s) := by
      unfold LV.one DV.a3
      rw [if_pos (by rw [HY.out.2.1]; decide), if_neg (by rw [HY.out.2.1]; decide)]
    have EO := Lib.hid eo
    have hE := lwrite_any l b f x L y.q y.s W HB.out.1.ln HY.out.2.2 HY.out.1.1 HY.out.1.2
    obtain ⟨cc, hcc⟩ : ∃ cc, L.code (L.D.writeE y.q y.s) = cc := ⟨_, rfl⟩
    rw [hcc] at hE
    have HE := Lib.hid hE
    have HCC := Lib.hid hcc
    clear eo hE hcc
    go_enter Try.func13, Try.ntmps13
    go_wp2_with fail
    refine HE.out.mono ?_
    rintro e wa ⟨rfl, h1, g1⟩
    have hR := rlwrite_any p r fp L y.q y.s wa (HB.out.1.mid g1) HY.out.2.2 HY.out.1.1 HY.out.1.2
    rw [HCC.out] at hR
    have HR := Lib.hid hR
    have kb := HB.out.2.1.keep g1 (by have := HB.out.2.2; unfold LnX; omega)
    have H1 := Lib.hid (And.intro h1 g1)
    have j1 := kb.cell 1 rfl
    have j2 := kb.cell 2 rfl
    have hcz : ((cc : Int) == (cc : Int)) = true := by rw [beq_iff_eq]
    clear h1 g1 hR kb HE k0 k1 k2 hW
    go_wp2_with fail
    refine HR.out.mono ?_
    rintro e wb ⟨rfl, h2⟩
    have HS := Lib.hid (HB.out.1.step H1.out.1 H1.out.2 (act_P _ _).1 h2)
    clear h2 HR j1 j2
    go_wp2_with fail
    go_ret
    refine ⟨rfl, ?_⟩
    rw [EO.out]
    exact HS.out
  · have t1 : (y.k : Int) % 5 = 2 := by have := HY.out.2.1; omega
    have t1' : (y.k : Int).tmod 5 = 2 := by rw [Int.tmod_eq_emod_of_nonneg (by omega)]; exact t1
    have eo : L.one y = L.act L.D.flush := by
      unfold LV.one DV.a3
      rw [if_pos (by rw [HY.out.2.1]; decide), if_pos (by rw [HY.out.2.1])]
    have EO := Lib.hid eo
    have hE := lnflush_any l b f x L W HB.out.1.ln HY.out.2.2
    obtain ⟨cc, hcc⟩ : ∃ cc, L.code 0 = cc := ⟨_, rfl⟩
    rw [hcc] at hE
    have HE := Lib.hid hE
    have HCC := Lib.hid hcc
    clear eo hE hcc
    go_enter Try.func13, Try.ntmps13
    go_wp2_with fail
    refine HE.out.mono ?_
    rintro e wa ⟨rfl, h1, g1⟩
    have hR := rlflush_any p r fp L wa (HB.out.1.mid g1) HY.out.2.2
    rw [HCC.out] at hR
    have HR := Lib.hid hR
    have kb := HB.out.2.1.keep g1 (by have := HB.out.2.2; unfold LnX; omega)
    have H1 := Lib.hid (And.intro h1 g1)
    have j1 := kb.cell 1 rfl
    have j2 := kb.cell 2 rfl
    have hcz : ((cc : Int) == (cc : Int)) = true := by rw [beq_iff_eq]
    clear h1 g1 hR kb HE k0 k1 k2 hW
    go_wp2_with fail
    refine HR.out.mono ?_
    rintro e wb ⟨rfl, h2⟩
    have HS := Lib.hid (HB.out.1.step H1.out.1 H1.out.2 (act_P _ _).1 h2)
    clear h2 HR j1 j2
    go_wp2_with fail
    go_ret
    refine ⟨rfl, ?_⟩
    rw [EO.out]
    exact HS.out
  · have t1 : (y.k : Int) % 5 = 3 := by have := HY.out.2.1; omega
    have t1' : (y.k : Int).tmod 5 = 3 := by rw [Int.tmod_eq_emod_of_nonneg (by omega)]; exact t1
    have eo : L.one y = L := by
      unfold LV.one
      rw [if_neg (by rw [HY.out.2.1]; decide), if_neg (by rw [HY.out.2.1]; rintro ⟨h, _⟩; cases h)]
    have EO := Lib.hid eo
    have hE := lread_any l b f x L y.q W HB.out.1.ln HY.out.1.1
    have hR : ∀ W', Frm (fun _ => False) W W' → _ := fun W' g => rlread_any p r fp L y.q W' (HB.out.1.rl.keepF g) HY.out.1.1
    obtain ⟨rs, hrs⟩ : ∃ rs, bs (if (L.down || L.D.bad y.q) = true then [] else L.D.read y.q.toNat) = rs := ⟨_, rfl⟩
    obtain ⟨re, hre⟩ : ∃ re : Int, (if L.down = true then 8 else if L.D.bad y.q = true then 2 else 0) = re := ⟨_, rfl⟩
    rw [hrs, hre] at hE
    simp only [hrs, hre] at hR
    have HE := Lib.hid hE
    have HR := Lib.hid hR
    have hss : (rs.toList == rs.toList) = true := by rw [beq_iff_eq]
    have hee : (re == re) = true := by rw [beq_iff_eq]
    clear eo hE hR hrs hre
    go_enter Try.func13, Try.ntmps13
    go_wp2_with fail
    refine HE.out.mono ?_
    rintro e wa ⟨rfl, g1⟩
    have kb := HB.out.2.1.keep g1 (fun h => h)
    have H1 := Lib.hid g1
    have j1 := kb.cell 1 rfl
    clear g1 kb HE k0 k1 k2 hW
    go_wp2_with fail
    refine (HR.out _ H1.out).mono ?_
    rintro e wb ⟨rfl, g2⟩
    have HS := Lib.hid (HB.out.1.keepF (H1.out.trans g2))
    clear g2 HR j1
    go_wp2_with fail
    go_ret
    refine ⟨rfl, fp, ?_⟩
    rw [EO.out]
    exact HS.out
  · have t1 : (y.k : Int) % 5 = 4 := by have := HY.out.2.1; omega
    have t1' : (y.k : Int).tmod 5 = 4 := by rw [Int.tmod_eq_emod_of_nonneg (by omega)]; exact t1
    by_cases h7 : y.q % 7 = 0
    · have eo : L.one y = L.blow := by
        unfold LV.one
        rw [if_neg (by rw [HY.out.2.1]; decide), if_pos ⟨HY.out.2.1, h7⟩]
      have s1 : y.q.tmod 7 = 0 := Int.tmod_eq_zero_of_dvd (Int.dvd_of_emod_eq_zero h7)
      have EO := Lib.hid eo
      have HE := Lib.hid (lblow_any l b f x L W HB.out.1.ln)
      clear eo h7
      go_enter Try.func13, Try.ntmps13
      go_wp2_with fail
      refine HE.out.mono ?_
      rintro e wa ⟨rfl, h1, g1⟩
      have HR := Lib.hid (rblow_any p r fp L wa (HB.out.1.mid g1))
      have H1 := Lib.hid (And.intro h1 g1)
      clear h1 g1 HE k0 k1 k2 hW
      go_wp2_with fail
      refine HR.out.mono ?_
      rintro e wb ⟨rfl, h2⟩
      have HS := Lib.hid (HB.out.1.step H1.out.1 H1.out.2 (blow_P _).1 h2)
      clear h2 HR
      go_wp2_with fail
      go_ret
      refine ⟨rfl, ?_⟩
      rw [EO.out]
      exact HS.out
    · have eo : L.one y = L := by
        unfold LV.one
        rw [if_neg (by rw [HY.out.2.1]; decide), if_neg (fun h => h7 h.2)]
      have s1 : ¬ y.q.tmod 7 = 0 := fun h => h7 (by have := Int.dvd_of_tmod_eq_zero h; omega)
      have s2 : (y.q.tmod 7 == 0) = false := beq_eq_false_iff_ne.2 s1
      have EO := Lib.hid eo
      clear eo h7 s1
      go_enter Try.func13, Try.ntmps13
      go_wp2_with fail
      go_ret
      refine ⟨rfl, fp, ?_⟩
      rw [EO.out]
      exact HB.out.1
end Go.Proofs.Ytdhngbfigklaoaa

