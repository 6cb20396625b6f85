/- The device beside the document's: alike; one act on both. No condition. -/
import Derived.Test.YtnhihadnaiaojaaDvY
import Derived.Test.YtnhihadnaiaojaaLawDvHolds
namespace Go.Proofs.Ytnhihadnaiaojaa
open Go.RowKit Go.Shelf

/-- A device, and the document's one, of the same contents, both newer than w0. -/
structure Two (w0 w : World) (b f x r : Nat) (D : DV) (fp : Nat → Prop) : Prop where
  dev : DevM w b f x D
  ref : RefM w r D fp
  nb : ¬ fp b
  nf : ¬ fp f
  nx : ¬ fp x
  lf : w0.heap.size ≤ f
  lx : w0.heap.size ≤ x
  lp : ∀ k, fp k → w0.heap.size ≤ k
  frm : Frm (fun _ => False) w0 w
section
variable {w0 w w' : World} {b f x r : Nat} {D D' : DV} {fp : Nat → Prop}
theorem Two.keepF (h : Two w0 w b f x r D fp) (g : Frm (fun _ => False) w w') : Two w0 w' b f x r D fp :=
  ⟨h.dev.keepF g, h.ref.keepF g, h.nb, h.nf, h.nx, h.lf, h.lx, h.lp, h.frm.trans g⟩
theorem Two.keep {X : Nat → Prop} (h : Two w0 w b f x r D fp) (g : Frm X w w') (h1 : ¬ X b) (h2 : ¬ X f) (h3 : ¬ X x) (h4 : ∀ k, fp k → ¬ X k) (h5 : ∀ k, X k → w0.heap.size ≤ k) : Two w0 w' b f x r D fp :=
  ⟨h.dev.keep g h1 h2 h3, h.ref.keep g h4, h.nb, h.nf, h.nx, h.lf, h.lx, h.lp, h.frm.next g fun j hj e => by have := h5 j e; omega⟩
/-- Both have turned, one behind the other. -/
theorem Two.turn {w1 w2 : World} {X : Nat → Prop} (h : Two w0 w b f x r D fp) (hX : ∀ k, X k → k = f ∨ k = x) (hd : DevM w1 b f x D') (g1 : Frm X w w1) (hr : RefM w1 r D fp → RefTo r D' fp w1 w2) : ∃ fp', Two w0 w2 b f x r D' fp' := by
  have hr1 := h.ref.keep g1 fun k hk e => by
    rcases hX k e with e | e
    · subst e; exact h.nf hk
    · subst e; exact h.nx hk
  obtain ⟨fp', h2, g2, h3⟩ := hr hr1
  have hlt := hd.lt
  refine ⟨fp', hd.keep g2 h.nb h.nf h.nx, h2, fun e => ?_, fun e => ?_, fun e => ?_, h.lf, h.lx, fun k hk => ?_, ?_⟩
  · rcases h3 b e with e | e
    · exact h.nb e
    · omega
  · rcases h3 f e with e | e
    · exact h.nf e
    · omega
  · rcases h3 x e with e | e
    · exact h.nx e
    · omega
  · have s1 := g1.size
    have s0 := h.frm.size
    rcases h3 k hk with e | e
    · exact h.lp k e
    · omega
  · have l1 := h.lf
    have l2 := h.lx
    exact (h.frm.next g1 fun j hj e => by rcases hX j e with e | e <;> omega).next g2 fun j hj e => by have := h.lp j e; omega
end
set_option maxRecDepth 100000 in
theorem may_any (n : Int) (w : World) : Calls Try.prog 10 #[.int .i64 n] w fun e w' => e = .returned (.bool (decide (256 ≤ n ∧ n ≤ 2048))) ∧ w = w' := by
  by_cases h1 : 256 ≤ n
  · by_cases h2 : n ≤ 2048
    · rw [decide_eq_true (And.intro h1 h2)]
      go_enter Try.func10, Try.ntmps10
      go_wp2_with fail
      go_ret
      exact ⟨rfl, rfl⟩
    · rw [decide_eq_false (fun h => h2 h.2)]
      go_enter Try.func10, Try.ntmps10
      go_wp2_with fail
      go_ret
      exact ⟨rfl, rfl⟩
  · rw [decide_eq_false (fun h => h1 h.1)]
    go_enter Try.func10, Try.ntmps10
    go_wp2_with fail
    go_ret
    exact ⟨rfl, rfl⟩
set_option maxRecDepth 100000 in
set_option maxHeartbeats 4000000 in
theorem alike_any (b f x r : Nat) (D : DV) (fp : Nat → Prop) (q : Int) (w : World) (hd : DevM w b f x D) (hr : RefM w r D fp) (hq : Z64 q) :
    Calls Try.prog 19 #[.pointer (some ⟨b, 0, none⟩), .pointer (some ⟨r, 0, none⟩), .int .i64 q] w fun e w' => e = .returned (.bool true) ∧ Frm (fun _ => False) w w' := by
  have H1 := Lib.hid (fun W (g : Frm (fun _ => False) w W) => read_any b f x D q W (hd.keepF g) hq)
  have H2 := Lib.hid (fun W (g : Frm (fun _ => False) w W) => read_ref r D fp q W (hr.keepF g) hd.ok hq)
  have H3 := Lib.hid (fun W (g : Frm (fun _ => False) w W) => firm_any b f x D q W (hd.keepF g) hq)
  have H4 := Lib.hid (fun W (g : Frm (fun _ => False) w W) => sure_ref r D fp q W (hr.keepF g) hd.ok hq)
  clear hd hr hq
  obtain ⟨s1, hs1⟩ : ∃ s1, bs (if D.bad q = true then [] else D.read q.toNat) = s1 := ⟨_, rfl⟩
  obtain ⟨s2, hs2⟩ : ∃ s2, bs (if D.bad q = true then [] else D.F q.toNat) = s2 := ⟨_, rfl⟩
  obtain ⟨e1, he1⟩ : ∃ e1 : Int, (if D.bad q = true then 2 else 0) = e1 := ⟨_, rfl⟩
  rw [hs1, he1] at H1 H2
  rw [hs2, he1] at H3 H4
  have l1 : (s1.toList == s1.toList) = true := by rw [beq_iff_eq]
  have l2 : (s2.toList == s2.toList) = true := by rw [beq_iff_eq]
  have l3 : (e1 == e1) = true := by rw [beq_iff_eq]
  clear hs1 hs2 he1
  go_enter Try.func19, Try.ntmps19
  go_wp2_with fail
  refine (H1.out _ (Frm.refl _ _)).mono ?_
  rintro e w1 ⟨rfl, g1⟩
  have G1 := Lib.hid g1
  clear g1
  go_wp2_with fail
  refine (H2.out _ G1.out).mono ?_
  rintro e w2 ⟨rfl, g2⟩
  have G2 := Lib.hid (G1.out.trans g2)
  clear g2
  go_wp2_with fail
  refine (H3.out _ G2.out).mono ?_
  rintro e w3 ⟨rfl, g3⟩
  have G3 := Lib.hid (G2.out.trans g3)
  clear g3
  go_wp2_with fail
  refine (H4.out _ G3.out).mono ?_
  rintro e w4 ⟨rfl, g4⟩
  have G4 := Lib.hid (G3.out.trans g4)
  clear g4
  go_wp2_with fail
  go_ret
  exact ⟨rfl, G4.out⟩
set_option maxRecDepth 100000 in
set_option maxHeartbeats 8000000 in
theorem one_any (b f x r : Nat) (D : DV) (fp : Nat → Prop) (y : ActD) (c : Value) (w0 w : World) (h : Two w0 w b f x r D fp) (hfit : y.fits) (hz : Zs w0 c y.cs) (hcl : y.cs.length ≤ 1000000) :
    Calls Try.prog 18 #[.pointer (some ⟨b, 0, none⟩), .pointer (some ⟨r, 0, none⟩), .agg #[.int .u8 (y.k : Nat), .int .i64 y.q, .string (bs y.s), c]] w fun e w' => e = .returned (.bool true) ∧ ∃ fp', Two w0 w' b f x r (D.act y) fp' := by
  have hlow := hz.low
  obtain ⟨a, cap, rfl, h1, h2⟩ := hz.slice
  unfold maxLen at h2
  obtain ⟨p, hp⟩ : ∃ p, w.heap.size = p := ⟨_, rfl⟩
  obtain ⟨wb, hwb⟩ : ∃ wb, w.alloc (.cells #[.int .u8 (y.k : Nat), .int .i64 y.q, .string (bs y.s), .slice a y.cs.length cap] 33) = wb := ⟨_, rfl⟩
  have g0 : Frm (fun _ => False) w wb := by rw [← hwb]; exact (Frm.refl _ w).alloc _
  have hB : Blk wb p 33 #[.int .u8 (y.k : Nat), .int .i64 y.q, .string (bs y.s), .slice a y.cs.length cap] := by rw [← hwb, ← hp]; exact Blk.alloc _ _ _
  have c0 := hB.cell 0 rfl
  have c1 := hB.cell 1 rfl
  have c2 := hB.cell 2 rfl
  have c3 := hB.cell 3 rfl
  have hlt := h.dev.lt
  have hlr := h.ref.lt
  have hbf : f ≠ p := by omega
  have hbx : x ≠ p := by omega
  have hbp : ∀ k, fp k → k ≠ p := fun k hk e => by have := hlr k hk; omega
  have hT := h.keepF g0
  obtain ⟨m, hm⟩ : ∃ m, y.k % 6 = m := ⟨_, rfl⟩
  have hm6 : m < 6 := by omega
  have hk256 := hfit.k
  have t1 : (y.k : Int) % 6 = (m : Int) := by omega
  have t1' : (y.k : Int).tmod 6 = (m : Int) := by rw [Int.tmod_eq_emod_of_nonneg (by omega)]; exact t1
  have t3 : IntKind.u8.wrap (m : Int) = (m : Int) := IntWalk.u8_in _ (by omega)
  have H := Lib.hid (And.intro hT (And.intro hB (And.intro hlow (And.intro hfit (And.intro hz hcl)))))
  have HP := Lib.hid hbp
  have HM := Lib.hid hm
  clear h hT hB hlow hfit hz hcl g0 hm hlt hlr hbp
  have a31 := Try.isAgg31
  have z31 := Try.sizeOf31
  by_cases e3 : m = 3
  · subst e3
    have ea : D.act y = D.flush := by unfold DV.act; rw [if_pos HM.out]
    rw [ea]
    have HF := Lib.hid (flush_any b f x D wb H.out.1.dev)
    clear ea
    go_enter Try.func18, Try.ntmps18
    go_wp2_with fail
    refine HF.out.mono ?_
    rintro e w1 ⟨rfl, hd1, g1⟩
    have hr1 := H.out.1.ref.keep g1 fun k hk e => by
      rcases e with e | e
      · subst e; exact H.out.1.nf hk
      · subst e; exact H.out.1.nx hk
    have HR := Lib.hid (rflush_any r D fp w1 hr1 H.out.1.dev.ok)
    have H1 := Lib.hid (And.intro hd1 g1)
    clear hd1 g1 hr1
    go_wp2_with fail
    refine HR.out.mono ?_
    rintro e w2 ⟨rfl, hr2, g2⟩
    have HE := Lib.hid (H.out.1.turn (fun _ h => h) H1.out.1 H1.out.2 fun _ => RefTo.same hr2 g2)
    clear hr2 g2
    go_wp2_with fail
    go_ret
    exact ⟨rfl, HE.out⟩
  · have n3 : ¬ (m : Int) = 3 := by omega
    have b3 : ((m : Int) == 3) = false := by rw [beq_eq_false_iff_ne]; exact n3
    by_cases e4 : m = 4
    · subst e4
      have ea : D.act y = D.crash y.cs := by unfold DV.act; rw [if_neg (by rw [HM.out]; decide), if_pos HM.out]
      rw [ea]
      have hz0 := H.out.2.2.2.2.1.keepF H.out.1.frm
      have HF := Lib.hid (crash_any b f x D (.slice a y.cs.length cap) y.cs wb H.out.1.dev hz0 H.out.2.2.2.1.cs H.out.2.2.2.2.2 (H.out.2.2.1.imp id fun h q e => by have := h q e; have := H.out.1.lf; omega))
      clear ea hz0
      go_enter Try.func18, Try.ntmps18
      go_wp2_with fail
      refine HF.out.mono ?_
      rintro e w1 ⟨rfl, hd1, g1⟩
      have hr1 := H.out.1.ref.keep g1 fun k hk e => by
        rcases e with e | e
        · subst e; exact H.out.1.nf hk
        · subst e; exact H.out.1.nx hk
      have F1 : Frm (fun _ => False) w0 w1 := H.out.1.frm.next g1 fun j hj e => by have := H.out.1.lf; have := H.out.1.lx; omega
      have HR := Lib.hid (rcrash_any r D fp (.slice a y.cs.length cap) y.cs w1 hr1 H.out.1.dev.ok (H.out.2.2.2.2.1.keepF F1) H.out.2.2.2.1.cs H.out.2.2.2.2.2 (H.out.2.2.1.imp id fun h q e hq => by have := h q e; have := H.out.1.lp q hq; omega))
      have c3 := (H.out.2.1.keep g1 (by omega)).cell 3 rfl
      have H1 := Lib.hid (And.intro hd1 g1)
      clear hd1 g1 hr1 F1
      go_wp2_with fail
      refine HR.out.mono ?_
      rintro e w2 ⟨rfl, hr2, g2⟩
      have HE := Lib.hid (H.out.1.turn (fun _ h => h) H1.out.1 H1.out.2 fun _ => RefTo.same hr2 g2)
      clear hr2 g2
      go_wp2_with fail
      go_ret
      exact ⟨rfl, HE.out⟩
    · have n4 : ¬ (m : Int) = 4 := by omega
      have b4 : ((m : Int) == 4) = false := by rw [beq_eq_false_iff_ne]; exact n4
      by_cases e5 : m = 5
      · subst e5
        have ea : D.act y = D := by unfold DV.act; rw [if_neg (by rw [HM.out]; decide), if_neg (by rw [HM.out]; decide), if_pos HM.out]
        rw [ea]
        clear ea
        go_enter Try.func18, Try.ntmps18
        go_wp2_with fail
        go_ret
        exact ⟨rfl, _, H.out.1⟩
      · have n5 : ¬ (m : Int) = 5 := by omega
        have b5 : ((m : Int) == 5) = false := by rw [beq_eq_false_iff_ne]; exact n5
        have ea : D.act y = D.writeTo y.q y.s := by
          unfold DV.act
          rw [if_neg (by rw [HM.out]; omega), if_neg (by rw [HM.out]; omega), if_neg (by rw [HM.out]; omega)]
        rw [ea]
        clear ea
        obtain ⟨E, hE⟩ : ∃ E, D.writeE y.q y.s = E := ⟨_, rfl⟩
        have HW := Lib.hid (fun W (g : Frm (fun _ => False) wb W) => write_any b f x D y.q y.s W (H.out.1.dev.keepF g) H.out.2.2.2.1.q H.out.2.2.2.1.s)
        have HV := Lib.hid (fun W hr => write_ref r D fp y.q y.s W hr H.out.1.dev.ok H.out.2.2.2.1.q H.out.2.2.2.1.s)
        rw [hE] at HW HV
        have hEE : ((E : Int) == (E : Int)) = true := by rw [beq_iff_eq]
        clear hE
        go_enter Try.func18, Try.ntmps18
        go_wp2_with fail
        refine (HW.out _ (Frm.refl _ _)).mono ?_
        rintro e w1 ⟨rfl, hd1, g1⟩
        have hr1 := H.out.1.ref.keep g1 fun k hk e => by
          subst e; exact H.out.1.nx hk
        have hB1 := H.out.2.1.keep g1 (fun e => hbx e.symm)
        have c1 := hB1.cell 1 rfl
        have c2 := hB1.cell 2 rfl
        have HR := Lib.hid (HV.out w1 hr1)
        have H1 := Lib.hid (And.intro hd1 g1)
        clear hd1 g1 hr1 hB1
        go_wp2_with fail
        refine HR.out.mono ?_
        rintro e w2 ⟨rfl, hr2⟩
        have HE := Lib.hid (H.out.1.turn (fun _ h => .inr h) H1.out.1 H1.out.2 fun _ => hr2)
        clear hr2
        go_wp2_with fail
        go_ret
        exact ⟨rfl, HE.out⟩
end Go.Proofs.Ytnhihadnaiaojaa
