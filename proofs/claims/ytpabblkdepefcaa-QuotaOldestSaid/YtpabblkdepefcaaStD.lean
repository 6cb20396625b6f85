/- A stable sort's merge, over any program that bears its functions: two stretches, rotated about the middle of both, which lies in the first one. No condition but the row's length. -/
import Derived.Test.YtpabblkdepefcaaStA
namespace Go.Proofs.Ytpabblkdepefcaa
open Go.Shelf Go.RowKit Go.Lib Go.Sort
section
variable {P : Program} {α : Type} [Inhabited α] {k : Nat}
set_option maxHeartbeats 64000000 in
set_option maxRecDepth 1000000 in
theorem symMerge_mid1 (L : StL P k) (enc : α → List Value) (cf : α → α → Int) (lt : α → α → Bool) (og : α → α → Prop) (hS : SWO lt) (hL : ∀ x y, og x y → ltOf cf y x = lt y x) (g : Nat) (cb : Array Value) (blk off cap : Nat) (d0 : Array α) (w0 : World)
    (eg : ∀ args w, (callFunc g args).run P w = .ok (.enter g args) w) (hcmp : CmpLays P g cb enc k cf blk off d0.size w0) (R : RowK enc k w0 blk off d0) (a m b mid : Nat) (d : Array α) (w : World) (hs : d0.size = d.size) (S : SWK enc k w0 blk off d w) (ham : a < m) (hmb : m < b) (hb : b ≤ d.size) (hsz : d.size < 4611686018427387904) (hT : Two lt og a m b d) (_c1 : ¬ m - a = 1) (c2 : ¬ b - m = 1) (hmid : (a + b) / 2 = mid) (hmm : mid < m)
    (ih : ∀ (a' m' b' : Nat) (d' : Array α) (w' : World), b' - a' < b - a → d0.size = d'.size → SWK enc k w0 blk off d' w' → a' < m' → m' < b' → b' ≤ d'.size → d'.size < 4611686018427387904 → Two lt og a' m' b' d' → Calls P 35 #[.slice (some ⟨blk, off, none⟩) d'.size cap, .int .i64 a', .int .i64 m', .int .i64 b', .func (.func g) #[] cb] w' fun e w'' =>
      e = .returned (.tuple #[]) ∧ ∃ d'', SortedIn lt a' b' d'' ∧ (∀ lo hi, lo ≤ a' → b' ≤ hi → hi ≤ d'.size → PermIn lo hi d' d'') ∧ SWK enc k w0 blk off d'' w'') :
    Calls P 35 #[.slice (some ⟨blk, off, none⟩) d.size cap, .int .i64 a, .int .i64 m, .int .i64 b, .func (.func g) #[] cb] w fun e w' =>
      e = .returned (.tuple #[]) ∧ ∃ d', SortedIn lt a b d' ∧ (∀ lo hi, lo ≤ a → b ≤ hi → hi ≤ d.size → PermIn lo hi d d') ∧ SWK enc k w0 blk off d' w' := by
  have mixed := L.mixed; have t0 := L.t0; have a0 := L.a0; have z0 := L.z0; have v0 := L.v0; have t3 := L.t3; have a3 := L.a3; have z3 := L.z3; have v3 := L.v3; have t4 := L.t4; have a4 := L.a4; have z4 := L.z4; have v4 := L.v4; have t22 := L.t22; have a22 := L.a22; have z22 := L.z22; have v22 := L.v22; have t25 := L.t25; have a25 := L.a25; have z25 := L.z25; have v25 := L.v25; have t63 := L.t63; have a63 := L.a63; have z63 := L.z63; have v63 := L.v63; have aE := L.aE; have zE := L.zE
  have FG := L.f35
  have e35 : ∀ args w, (callFunc 35 args).run P w = .ok (.enter 35 args) w := (ofF L.f35 (by kernel_rfl)).enters rfl
  have e37 : ∀ args w, (callFunc 37 args).run P w = .ok (.enter 37 args) w := (ofF L.f37 (by kernel_rfl)).enters rfl
  have HC : Aside _ := hcmp
  clear hcmp
  have HT := Lib.hid hT
  have S0 : Aside (SWK enc k w0 blk off d w) := S
  clear S hT
  go_enter FG, Try.ntmps35
  have hone : ¬ (m : Int) - (a : Int) = 1 := by omega
  have honeb : ((m : Int) - (a : Int) == 1) = false := by rw [beq_eq_false_iff_ne]; exact hone
  have htwo : ¬ (b : Int) - (m : Int) = 1 := by omega
  have htwob : ((b : Int) - (m : Int) == 1) = false := by rw [beq_eq_false_iff_ne]; exact htwo
  have hmz : ((a : Int) + (b : Int)) / 2 = (mid : Int) := by omega
  have wab : IntKind.i64.wrap ((a : Int) + (b : Int)) = (a : Int) + (b : Int) := by rw [IntKind.wrap_i64]; omega
  have hm1 : a + b ≤ mid + mid + 1 := by omega
  have hm2 : mid + mid ≤ a + b := by omega
  have HRO := Lib.hid fun (x y z : Nat) (dx : Array α) (wx : World) => rotate_any L enc blk off cap x y z (.func (.func g) #[] cb) d0 dx w0 wx R
  have HIH := Lib.hid ih
  clear ih
  have hmmz : (mid : Int) < (m : Int) := by omega
  obtain ⟨pp, hpp⟩ : ∃ pp, mid + m - 1 = pp := ⟨_, rfl⟩
  have hppz : (mid : Int) + (m : Int) - 1 = (pp : Int) := by omega
  obtain ⟨s0, hs0⟩ : ∃ s0, mid + m - b = s0 := ⟨_, rfl⟩
  have hs0z : (mid : Int) + (m : Int) - (b : Int) = (s0 : Int) := by omega
  obtain ⟨r0, hr1, hr2⟩ : ∃ r0, mid ≤ r0 ∧ r0 ≤ mid := ⟨mid, Nat.le_refl _, Nat.le_refl _⟩
  have hr0v : Value.int .i64 (mid : Int) = Value.int .i64 (r0 : Int) := by congr 1; omega
  have HRV := Lib.hid hr0v
  clear hr0v
  go_wp2
  go_loopw [20, 21] (fun vi vj wr => ∃ (i j : Nat), vi = .int .i64 i ∧ vj = .int .i64 j ∧ s0 ≤ i ∧ i ≤ j ∧ j ≤ r0 ∧ Aside (SWK enc k w0 blk off d wr) ∧ Hid ((i = s0 ∨ lt d[pp + 1 - i]! d[i - 1]! = false) ∧ (j = r0 ∨ lt d[pp - j]! d[j]! = true))) (fun vi vj _ => (intOf vj).toNat - (intOf vi).toNat)
  case atStart => exact ⟨s0, r0, by go_num, by go_num, Nat.le_refl _, by omega, Nat.le_refl _, S0, .inl rfl, .inl rfl⟩
  case round =>
    clear S0
    obtain ⟨i, j, rfl, rfl, hai, hij, hjm, S1, HR⟩ := hrel
    by_cases hlt : i < j
    · have hltz : (i : Int) < (j : Int) := by omega
      obtain ⟨h, hh⟩ : ∃ h, (i + j) / 2 = h := ⟨_, rfl⟩
      have hz : ((i : Int) + (j : Int)) / 2 = (h : Int) := by omega
      have hih : i ≤ h := by omega
      have hhj : h < j := by omega
      have wij : IntKind.i64.wrap ((i : Int) + (j : Int)) = (i : Int) + (j : Int) := by rw [IntKind.wrap_i64]; omega
      obtain ⟨q, hq⟩ : ∃ q, pp - h = q := ⟨_, rfl⟩
      have hqz : (pp : Int) - (h : Int) = (q : Int) := by omega
      have hog : ltOf cf d[q]! d[h]! = lt d[q]! d[h]! := hL _ _ (HT.out.og h q (by omega) (by omega) (by omega) (by omega))
      have HQQ := Lib.hid hq
      cases hlv : ltOf cf d[q]! d[h]! with
      | true =>
        rw [hlv] at hog
        have HO := Lib.hid hog
        clear hog hh
        have ea1 : ((q : Int)).toNat = q := by omega
        have pa1 : (0 : Int) ≤ (q : Int) := by omega
        have ba1 : (q : Int) < (d.size : Int) := by omega
        have ra1 : IntKind.i64.wrap ((q : Int)) = (q : Int) := by rw [IntKind.wrap_i64]; omega
        have ea2 : ((h : Int)).toNat = h := by omega
        have pa2 : (0 : Int) ≤ (h : Int) := by omega
        have ba2 : (h : Int) < (d.size : Int) := by omega
        have ra2 : IntKind.i64.wrap ((h : Int)) = (h : Int) := by rw [IntKind.wrap_i64]; omega
        obtain ⟨x, hx⟩ : ∃ x, x = d[q]! := ⟨_, rfl⟩
        obtain ⟨y, hy⟩ : ∃ x, x = d[h]! := ⟨_, rfl⟩
        have la := S1.out.ld R (by omega) P (q) (by omega)
        have lb := S1.out.ld R (by omega) P (h) (by omega)
        rw [← hx] at la
        rw [← hy] at lb
        have hc := S1.out.cmp HC.out (by omega) x y
        have hv : cf x y < 0 := by rw [hx, hy]; exact of_decide_eq_true hlv
        have hd : decide (cf x y < 0) = true := decide_eq_true hv
        clear hx hy
        go_wp2_with fail
        go_quiet_grown (first | (go_at_fn g; refine Calls.grown_of (hc _ _)))
        have S2 : Aside (SWK enc k w0 blk off d (grow (wr.drewN nq) osq)) := S1.out.grown nq osq
        clear la lb hc S1
        generalize grow (wr.drewN nq) osq = wu at S2 ⊢
        clear nq osq
        go_wp2
        go_roundw
        case rel => exact ⟨i, h, rfl, by go_num, hai, hih, by omega, S2, HR.out.1, .inr (by rw [HQQ.out]; exact HO.out.symm)⟩
        case measure => simp [intOf]; omega
      | false =>
        rw [hlv] at hog
        have HO := Lib.hid hog
        clear hog hh
        have ea1 : ((q : Int)).toNat = q := by omega
        have pa1 : (0 : Int) ≤ (q : Int) := by omega
        have ba1 : (q : Int) < (d.size : Int) := by omega
        have ra1 : IntKind.i64.wrap ((q : Int)) = (q : Int) := by rw [IntKind.wrap_i64]; omega
        have ea2 : ((h : Int)).toNat = h := by omega
        have pa2 : (0 : Int) ≤ (h : Int) := by omega
        have ba2 : (h : Int) < (d.size : Int) := by omega
        have ra2 : IntKind.i64.wrap ((h : Int)) = (h : Int) := by rw [IntKind.wrap_i64]; omega
        obtain ⟨x, hx⟩ : ∃ x, x = d[q]! := ⟨_, rfl⟩
        obtain ⟨y, hy⟩ : ∃ x, x = d[h]! := ⟨_, rfl⟩
        have la := S1.out.ld R (by omega) P (q) (by omega)
        have lb := S1.out.ld R (by omega) P (h) (by omega)
        rw [← hx] at la
        rw [← hy] at lb
        have hc := S1.out.cmp HC.out (by omega) x y
        have hv : ¬ cf x y < 0 := by rw [hx, hy]; exact of_decide_eq_false hlv
        have hd : decide (cf x y < 0) = false := decide_eq_false hv
        clear hx hy
        go_wp2_with fail
        go_quiet_grown (first | (go_at_fn g; refine Calls.grown_of (hc _ _)))
        have S2 : Aside (SWK enc k w0 blk off d (grow (wr.drewN nq) osq)) := S1.out.grown nq osq
        clear la lb hc S1
        generalize grow (wr.drewN nq) osq = wu at S2 ⊢
        clear nq osq
        go_wp2
        go_roundw
        case rel => exact ⟨h + 1, j, by go_num, rfl, by omega, by omega, hjm, S2, .inr (by rw [Nat.add_sub_cancel, show pp + 1 - (h + 1) = pp - h from by omega, HQQ.out]; exact HO.out.symm), HR.out.2⟩
        case measure => simp [intOf]; omega
    · obtain rfl : i = j := by omega
      obtain ⟨st, hst⟩ : ∃ st, i = st := ⟨_, rfl⟩
      subst hst
      obtain ⟨en, hen⟩ : ∃ en, mid + m - i = en := ⟨_, rfl⟩
      have henz : (mid : Int) + (m : Int) - (i : Int) = (en : Int) := by omega
      have hast : a ≤ i := by omega
      have hstm : i ≤ m := by omega
      have hmen : m ≤ en := by omega
      have henb : en ≤ b := by omega
      have HB : Hid ((i = a ∨ en = b ∨ lt d[en]! d[i - 1]! = false) ∧ (i = m ∨ en = m ∨ lt d[en - 1]! d[i]! = true)) := by
        refine ⟨?_, ?_⟩
        · rcases HR.out.1 with e | e
          · exact .inr (.inl (by omega))
          · rw [show pp + 1 - i = en from by omega] at e; exact .inr (.inr e)
        · rcases HR.out.2 with e | e
          · exact .inr (.inl (by omega))
          · rw [show pp - i = en - 1 from by omega] at e; exact .inr (.inr e)
      rcases Nat.lt_or_ge i m with p1 | p1
      · have x1 : (i : Int) < (m : Int) := by omega
        rcases Nat.lt_or_ge m en with p2 | p2
        · have x2 : (m : Int) < (en : Int) := by omega
          have hc := HRO.out i m en d wr (by omega) S1.out p1 p2 (by omega) hsz
          have HK := Lib.hid hc
          clear hc S1
          go_wp2_with fail
          refine HK.out.mono ?_
          rintro e w1 ⟨rfl, r, g1, g2, g3⟩
          have HG : Hid (Rot i m en d r ∧ ∀ lo hi, lo ≤ a → b ≤ hi → hi ≤ d.size → PermIn lo hi d r) := ⟨g1, fun lo hi h1 h2 h3 => g2 lo hi (by omega) (by omega) h3⟩
          have S2 : Aside (SWK enc k w0 blk off r w1) := g3
          clear g1 g2 g3 HK
          have hszr : r.size = d.size := HG.out.1.1
          have HP := Lib.hid (Two.parts (mid := mid) hS HT.out hast hstm hmen henb (by omega) HG.out.1 HB.out.1 HB.out.2)
          rcases Nat.lt_or_ge a i with q1 | q1
          · have y1 : (a : Int) < (i : Int) := by omega
            rcases Nat.lt_or_ge i mid with q2 | q2
            · have y2 : (i : Int) < (mid : Int) := by omega
              have hc := HIH.out (a) (i) (mid) r w1 (by omega) (by omega) S2.out (by omega) (by omega) (by omega) (by omega) HP.out.1
              rw [hszr] at hc
              have HK := Lib.hid hc
              clear hc
              go_wp2_with fail
              all_goals
                refine HK.out.mono ?_
                rintro e w2 ⟨rfl, d1, g1, g2, g3⟩
                have HPA := Lib.hid (And.intro (g2 a mid (Nat.le_refl _) (Nat.le_refl _) (by omega)) g1)
                have S3 : Aside (SWK enc k w0 blk off d1 w2) := g3
                clear g1 g2 g3 S2
                have hszd1 : d1.size = d.size := by rw [HPA.out.1.1]; exact hszr
                have HT2 := Lib.hid (Two.keep HP.out.2.1 (fun p h1 _ => HPA.out.1.2.1 p (.inr h1)) (by omega) (by omega))
                rcases Nat.lt_or_ge mid en with q2 | q2
                · have z1 : (mid : Int) < (en : Int) := by omega
                  rcases Nat.lt_or_ge en b with q3 | q3
                  · have z2 : (en : Int) < (b : Int) := by omega
                    have hc := HIH.out (mid) (en) (b) d1 w2 (by omega) (by omega) S3.out (by omega) (by omega) (by omega) (by omega) HT2.out
                    rw [hszd1] at hc
                    have HK := Lib.hid hc
                    clear hc
                    go_wp2_with fail
                    all_goals
                      refine HK.out.mono ?_
                      rintro e w3 ⟨rfl, d2, g1, g2, g3⟩
                      have HPB := Lib.hid (And.intro (g2 mid b (Nat.le_refl _) (Nat.le_refl _) (by omega)) g1)
                      have S4 : Aside (SWK enc k w0 blk off d2 w3) := g3
                      clear g1 g2 g3 S3
                      go_wp2_with fail
                      all_goals
                        go_end0
                        exact ⟨rfl, d2, merged (mid := mid) (by rw [hszr]; exact hb) (by omega) HP.out.2.2 HPA.out.1 HPA.out.2 HPB.out.1 HPB.out.2, fun lo hi h1 h2 h3 => permIn_trans _ _ _ _ _ (permIn_trans _ _ _ _ _ (HG.out.2 lo hi h1 h2 h3) (permIn_mono _ _ _ _ _ _ (by omega) (by omega) (by omega) HPA.out.1)) (permIn_mono _ _ _ _ _ _ (by omega) (by omega) (by omega) HPB.out.1), S4.out⟩
                  · have z2 : ¬ (en : Int) < (b : Int) := by omega
                    have HPB := Lib.hid (And.intro (permIn_refl d1 mid b) (show SortedIn lt mid b d1 from fun x y h1 h2 h3 => HT2.out.one x y h1 h2 (by omega)))
                    have S4 := S3
                    obtain ⟨d2, hd2⟩ : ∃ d2, d1 = d2 := ⟨_, rfl⟩
                    rw [hd2] at S4
                    have HPB' : Hid (PermIn mid b d1 d2 ∧ SortedIn lt mid b d2) := by subst hd2; exact HPB
                    clear HPB S3 hd2
                    have HPB := HPB'
                    go_wp2_with fail
                    all_goals
                      go_end0
                      exact ⟨rfl, d2, merged (mid := mid) (by rw [hszr]; exact hb) (by omega) HP.out.2.2 HPA.out.1 HPA.out.2 HPB.out.1 HPB.out.2, fun lo hi h1 h2 h3 => permIn_trans _ _ _ _ _ (permIn_trans _ _ _ _ _ (HG.out.2 lo hi h1 h2 h3) (permIn_mono _ _ _ _ _ _ (by omega) (by omega) (by omega) HPA.out.1)) (permIn_mono _ _ _ _ _ _ (by omega) (by omega) (by omega) HPB.out.1), S4.out⟩
                · have z1 : ¬ (mid : Int) < (en : Int) := by omega
                  have HPB := Lib.hid (And.intro (permIn_refl d1 mid b) (show SortedIn lt mid b d1 from fun x y h1 h2 h3 => HT2.out.two x y (by omega) h2 h3))
                  have S4 := S3
                  obtain ⟨d2, hd2⟩ : ∃ d2, d1 = d2 := ⟨_, rfl⟩
                  rw [hd2] at S4
                  have HPB' : Hid (PermIn mid b d1 d2 ∧ SortedIn lt mid b d2) := by subst hd2; exact HPB
                  clear HPB S3 hd2
                  have HPB := HPB'
                  go_wp2_with fail
                  all_goals
                    go_end0
                    exact ⟨rfl, d2, merged (mid := mid) (by rw [hszr]; exact hb) (by omega) HP.out.2.2 HPA.out.1 HPA.out.2 HPB.out.1 HPB.out.2, fun lo hi h1 h2 h3 => permIn_trans _ _ _ _ _ (permIn_trans _ _ _ _ _ (HG.out.2 lo hi h1 h2 h3) (permIn_mono _ _ _ _ _ _ (by omega) (by omega) (by omega) HPA.out.1)) (permIn_mono _ _ _ _ _ _ (by omega) (by omega) (by omega) HPB.out.1), S4.out⟩
            · have y2 : ¬ (i : Int) < (mid : Int) := by omega
              have HPA : Hid (PermIn a mid r r ∧ SortedIn lt a mid r) := ⟨permIn_refl r a mid, fun x y h1 h2 h3 => HP.out.1.one x y h1 h2 (by omega)⟩
              have S3 := S2
              obtain ⟨d1, hd1⟩ : ∃ d1, r = d1 := ⟨_, rfl⟩
              rw [hd1] at S3
              have HPA' : Hid (PermIn a mid r d1 ∧ SortedIn lt a mid d1) := by subst hd1; exact HPA
              clear HPA S2 hd1
              have HPA := HPA'
              obtain ⟨w2, hw2⟩ : ∃ w2, w1 = w2 := ⟨_, rfl⟩
              rw [hw2] at S3
              rw [hw2]
              clear hw2
              have hszd1 : d1.size = d.size := by rw [HPA.out.1.1]; exact hszr
              have HT2 := Lib.hid (Two.keep HP.out.2.1 (fun p h1 _ => HPA.out.1.2.1 p (.inr h1)) (by omega) (by omega))
              rcases Nat.lt_or_ge mid en with q2 | q2
              · have z1 : (mid : Int) < (en : Int) := by omega
                rcases Nat.lt_or_ge en b with q3 | q3
                · have z2 : (en : Int) < (b : Int) := by omega
                  have hc := HIH.out (mid) (en) (b) d1 w2 (by omega) (by omega) S3.out (by omega) (by omega) (by omega) (by omega) HT2.out
                  rw [hszd1] at hc
                  have HK := Lib.hid hc
                  clear hc
                  go_wp2_with fail
                  all_goals
                    refine HK.out.mono ?_
                    rintro e w3 ⟨rfl, d2, g1, g2, g3⟩
                    have HPB := Lib.hid (And.intro (g2 mid b (Nat.le_refl _) (Nat.le_refl _) (by omega)) g1)
                    have S4 : Aside (SWK enc k w0 blk off d2 w3) := g3
                    clear g1 g2 g3 S3
                    go_wp2_with fail
                    all_goals
                      go_end0
                      exact ⟨rfl, d2, merged (mid := mid) (by rw [hszr]; exact hb) (by omega) HP.out.2.2 HPA.out.1 HPA.out.2 HPB.out.1 HPB.out.2, fun lo hi h1 h2 h3 => permIn_trans _ _ _ _ _ (permIn_trans _ _ _ _ _ (HG.out.2 lo hi h1 h2 h3) (permIn_mono _ _ _ _ _ _ (by omega) (by omega) (by omega) HPA.out.1)) (permIn_mono _ _ _ _ _ _ (by omega) (by omega) (by omega) HPB.out.1), S4.out⟩
                · have z2 : ¬ (en : Int) < (b : Int) := by omega
                  have HPB := Lib.hid (And.intro (permIn_refl d1 mid b) (show SortedIn lt mid b d1 from fun x y h1 h2 h3 => HT2.out.one x y h1 h2 (by omega)))
                  have S4 := S3
                  obtain ⟨d2, hd2⟩ : ∃ d2, d1 = d2 := ⟨_, rfl⟩
                  rw [hd2] at S4
                  have HPB' : Hid (PermIn mid b d1 d2 ∧ SortedIn lt mid b d2) := by subst hd2; exact HPB
                  clear HPB S3 hd2
                  have HPB := HPB'
                  go_wp2_with fail
                  all_goals
                    go_end0
                    exact ⟨rfl, d2, merged (mid := mid) (by rw [hszr]; exact hb) (by omega) HP.out.2.2 HPA.out.1 HPA.out.2 HPB.out.1 HPB.out.2, fun lo hi h1 h2 h3 => permIn_trans _ _ _ _ _ (permIn_trans _ _ _ _ _ (HG.out.2 lo hi h1 h2 h3) (permIn_mono _ _ _ _ _ _ (by omega) (by omega) (by omega) HPA.out.1)) (permIn_mono _ _ _ _ _ _ (by omega) (by omega) (by omega) HPB.out.1), S4.out⟩
              · have z1 : ¬ (mid : Int) < (en : Int) := by omega
                have HPB := Lib.hid (And.intro (permIn_refl d1 mid b) (show SortedIn lt mid b d1 from fun x y h1 h2 h3 => HT2.out.two x y (by omega) h2 h3))
                have S4 := S3
                obtain ⟨d2, hd2⟩ : ∃ d2, d1 = d2 := ⟨_, rfl⟩
                rw [hd2] at S4
                have HPB' : Hid (PermIn mid b d1 d2 ∧ SortedIn lt mid b d2) := by subst hd2; exact HPB
                clear HPB S3 hd2
                have HPB := HPB'
                go_wp2_with fail
                all_goals
                  go_end0
                  exact ⟨rfl, d2, merged (mid := mid) (by rw [hszr]; exact hb) (by omega) HP.out.2.2 HPA.out.1 HPA.out.2 HPB.out.1 HPB.out.2, fun lo hi h1 h2 h3 => permIn_trans _ _ _ _ _ (permIn_trans _ _ _ _ _ (HG.out.2 lo hi h1 h2 h3) (permIn_mono _ _ _ _ _ _ (by omega) (by omega) (by omega) HPA.out.1)) (permIn_mono _ _ _ _ _ _ (by omega) (by omega) (by omega) HPB.out.1), S4.out⟩
          · have y1 : ¬ (a : Int) < (i : Int) := by omega
            have HPA : Hid (PermIn a mid r r ∧ SortedIn lt a mid r) := ⟨permIn_refl r a mid, fun x y h1 h2 h3 => HP.out.1.two x y (by omega) h2 h3⟩
            have S3 := S2
            obtain ⟨d1, hd1⟩ : ∃ d1, r = d1 := ⟨_, rfl⟩
            rw [hd1] at S3
            have HPA' : Hid (PermIn a mid r d1 ∧ SortedIn lt a mid d1) := by subst hd1; exact HPA
            clear HPA S2 hd1
            have HPA := HPA'
            obtain ⟨w2, hw2⟩ : ∃ w2, w1 = w2 := ⟨_, rfl⟩
            rw [hw2] at S3
            rw [hw2]
            clear hw2
            have hszd1 : d1.size = d.size := by rw [HPA.out.1.1]; exact hszr
            have HT2 := Lib.hid (Two.keep HP.out.2.1 (fun p h1 _ => HPA.out.1.2.1 p (.inr h1)) (by omega) (by omega))
            rcases Nat.lt_or_ge mid en with q2 | q2
            · have z1 : (mid : Int) < (en : Int) := by omega
              rcases Nat.lt_or_ge en b with q3 | q3
              · have z2 : (en : Int) < (b : Int) := by omega
                have hc := HIH.out (mid) (en) (b) d1 w2 (by omega) (by omega) S3.out (by omega) (by omega) (by omega) (by omega) HT2.out
                rw [hszd1] at hc
                have HK := Lib.hid hc
                clear hc
                go_wp2_with fail
                all_goals
                  refine HK.out.mono ?_
                  rintro e w3 ⟨rfl, d2, g1, g2, g3⟩
                  have HPB := Lib.hid (And.intro (g2 mid b (Nat.le_refl _) (Nat.le_refl _) (by omega)) g1)
                  have S4 : Aside (SWK enc k w0 blk off d2 w3) := g3
                  clear g1 g2 g3 S3
                  go_wp2_with fail
                  all_goals
                    go_end0
                    exact ⟨rfl, d2, merged (mid := mid) (by rw [hszr]; exact hb) (by omega) HP.out.2.2 HPA.out.1 HPA.out.2 HPB.out.1 HPB.out.2, fun lo hi h1 h2 h3 => permIn_trans _ _ _ _ _ (permIn_trans _ _ _ _ _ (HG.out.2 lo hi h1 h2 h3) (permIn_mono _ _ _ _ _ _ (by omega) (by omega) (by omega) HPA.out.1)) (permIn_mono _ _ _ _ _ _ (by omega) (by omega) (by omega) HPB.out.1), S4.out⟩
              · have z2 : ¬ (en : Int) < (b : Int) := by omega
                have HPB := Lib.hid (And.intro (permIn_refl d1 mid b) (show SortedIn lt mid b d1 from fun x y h1 h2 h3 => HT2.out.one x y h1 h2 (by omega)))
                have S4 := S3
                obtain ⟨d2, hd2⟩ : ∃ d2, d1 = d2 := ⟨_, rfl⟩
                rw [hd2] at S4
                have HPB' : Hid (PermIn mid b d1 d2 ∧ SortedIn lt mid b d2) := by subst hd2; exact HPB
                clear HPB S3 hd2
                have HPB := HPB'
                go_wp2_with fail
                all_goals
                  go_end0
                  exact ⟨rfl, d2, merged (mid := mid) (by rw [hszr]; exact hb) (by omega) HP.out.2.2 HPA.out.1 HPA.out.2 HPB.out.1 HPB.out.2, fun lo hi h1 h2 h3 => permIn_trans _ _ _ _ _ (permIn_trans _ _ _ _ _ (HG.out.2 lo hi h1 h2 h3) (permIn_mono _ _ _ _ _ _ (by omega) (by omega) (by omega) HPA.out.1)) (permIn_mono _ _ _ _ _ _ (by omega) (by omega) (by omega) HPB.out.1), S4.out⟩
            · have z1 : ¬ (mid : Int) < (en : Int) := by omega
              have HPB := Lib.hid (And.intro (permIn_refl d1 mid b) (show SortedIn lt mid b d1 from fun x y h1 h2 h3 => HT2.out.two x y (by omega) h2 h3))
              have S4 := S3
              obtain ⟨d2, hd2⟩ : ∃ d2, d1 = d2 := ⟨_, rfl⟩
              rw [hd2] at S4
              have HPB' : Hid (PermIn mid b d1 d2 ∧ SortedIn lt mid b d2) := by subst hd2; exact HPB
              clear HPB S3 hd2
              have HPB := HPB'
              go_wp2_with fail
              all_goals
                go_end0
                exact ⟨rfl, d2, merged (mid := mid) (by rw [hszr]; exact hb) (by omega) HP.out.2.2 HPA.out.1 HPA.out.2 HPB.out.1 HPB.out.2, fun lo hi h1 h2 h3 => permIn_trans _ _ _ _ _ (permIn_trans _ _ _ _ _ (HG.out.2 lo hi h1 h2 h3) (permIn_mono _ _ _ _ _ _ (by omega) (by omega) (by omega) HPA.out.1)) (permIn_mono _ _ _ _ _ _ (by omega) (by omega) (by omega) HPB.out.1), S4.out⟩
        · have x2 : ¬ (m : Int) < (en : Int) := by omega
          have HG : Hid (Rot i m en d d ∧ ∀ lo hi, lo ≤ a → b ≤ hi → hi ≤ d.size → PermIn lo hi d d) := ⟨by rw [show en = m from by omega]; exact Rot.none2 i m d, fun _ _ _ _ _ => permIn_refl d _ _⟩
          obtain ⟨r, hr⟩ : ∃ r, d = r := ⟨_, rfl⟩
          have S2 : Aside (SWK enc k w0 blk off r wr) := by rw [← hr]; exact S1
          have HG' : Hid (Rot i m en d r ∧ ∀ lo hi, lo ≤ a → b ≤ hi → hi ≤ d.size → PermIn lo hi d r) := by rw [← hr]; exact HG
          clear HG S1 hr
          have HG := HG'
          obtain ⟨w1, hw1⟩ : ∃ w1, wr = w1 := ⟨_, rfl⟩
          rw [hw1] at S2
          rw [hw1]
          clear hw1
          have hszr : r.size = d.size := HG.out.1.1
          have HP := Lib.hid (Two.parts (mid := mid) hS HT.out hast hstm hmen henb (by omega) HG.out.1 HB.out.1 HB.out.2)
          rcases Nat.lt_or_ge a i with q1 | q1
          · have y1 : (a : Int) < (i : Int) := by omega
            rcases Nat.lt_or_ge i mid with q2 | q2
            · have y2 : (i : Int) < (mid : Int) := by omega
              have hc := HIH.out (a) (i) (mid) r w1 (by omega) (by omega) S2.out (by omega) (by omega) (by omega) (by omega) HP.out.1
              rw [hszr] at hc
              have HK := Lib.hid hc
              clear hc
              go_wp2_with fail
              all_goals
                refine HK.out.mono ?_
                rintro e w2 ⟨rfl, d1, g1, g2, g3⟩
                have HPA := Lib.hid (And.intro (g2 a mid (Nat.le_refl _) (Nat.le_refl _) (by omega)) g1)
                have S3 : Aside (SWK enc k w0 blk off d1 w2) := g3
                clear g1 g2 g3 S2
                have hszd1 : d1.size = d.size := by rw [HPA.out.1.1]; exact hszr
                have HT2 := Lib.hid (Two.keep HP.out.2.1 (fun p h1 _ => HPA.out.1.2.1 p (.inr h1)) (by omega) (by omega))
                rcases Nat.lt_or_ge mid en with q2 | q2
                · have z1 : (mid : Int) < (en : Int) := by omega
                  rcases Nat.lt_or_ge en b with q3 | q3
                  · have z2 : (en : Int) < (b : Int) := by omega
                    have hc := HIH.out (mid) (en) (b) d1 w2 (by omega) (by omega) S3.out (by omega) (by omega) (by omega) (by omega) HT2.out
                    rw [hszd1] at hc
                    have HK := Lib.hid hc
                    clear hc
                    go_wp2_with fail
                    all_goals
                      refine HK.out.mono ?_
                      rintro e w3 ⟨rfl, d2, g1, g2, g3⟩
                      have HPB := Lib.hid (And.intro (g2 mid b (Nat.le_refl _) (Nat.le_refl _) (by omega)) g1)
                      have S4 : Aside (SWK enc k w0 blk off d2 w3) := g3
                      clear g1 g2 g3 S3
                      go_wp2_with fail
                      all_goals
                        go_end0
                        exact ⟨rfl, d2, merged (mid := mid) (by rw [hszr]; exact hb) (by omega) HP.out.2.2 HPA.out.1 HPA.out.2 HPB.out.1 HPB.out.2, fun lo hi h1 h2 h3 => permIn_trans _ _ _ _ _ (permIn_trans _ _ _ _ _ (HG.out.2 lo hi h1 h2 h3) (permIn_mono _ _ _ _ _ _ (by omega) (by omega) (by omega) HPA.out.1)) (permIn_mono _ _ _ _ _ _ (by omega) (by omega) (by omega) HPB.out.1), S4.out⟩
                  · have z2 : ¬ (en : Int) < (b : Int) := by omega
                    have HPB := Lib.hid (And.intro (permIn_refl d1 mid b) (show SortedIn lt mid b d1 from fun x y h1 h2 h3 => HT2.out.one x y h1 h2 (by omega)))
                    have S4 := S3
                    obtain ⟨d2, hd2⟩ : ∃ d2, d1 = d2 := ⟨_, rfl⟩
                    rw [hd2] at S4
                    have HPB' : Hid (PermIn mid b d1 d2 ∧ SortedIn lt mid b d2) := by subst hd2; exact HPB
                    clear HPB S3 hd2
                    have HPB := HPB'
                    go_wp2_with fail
                    all_goals
                      go_end0
                      exact ⟨rfl, d2, merged (mid := mid) (by rw [hszr]; exact hb) (by omega) HP.out.2.2 HPA.out.1 HPA.out.2 HPB.out.1 HPB.out.2, fun lo hi h1 h2 h3 => permIn_trans _ _ _ _ _ (permIn_trans _ _ _ _ _ (HG.out.2 lo hi h1 h2 h3) (permIn_mono _ _ _ _ _ _ (by omega) (by omega) (by omega) HPA.out.1)) (permIn_mono _ _ _ _ _ _ (by omega) (by omega) (by omega) HPB.out.1), S4.out⟩
                · have z1 : ¬ (mid : Int) < (en : Int) := by omega
                  have HPB := Lib.hid (And.intro (permIn_refl d1 mid b) (show SortedIn lt mid b d1 from fun x y h1 h2 h3 => HT2.out.two x y (by omega) h2 h3))
                  have S4 := S3
                  obtain ⟨d2, hd2⟩ : ∃ d2, d1 = d2 := ⟨_, rfl⟩
                  rw [hd2] at S4
                  have HPB' : Hid (PermIn mid b d1 d2 ∧ SortedIn lt mid b d2) := by subst hd2; exact HPB
                  clear HPB S3 hd2
                  have HPB := HPB'
                  go_wp2_with fail
                  all_goals
                    go_end0
                    exact ⟨rfl, d2, merged (mid := mid) (by rw [hszr]; exact hb) (by omega) HP.out.2.2 HPA.out.1 HPA.out.2 HPB.out.1 HPB.out.2, fun lo hi h1 h2 h3 => permIn_trans _ _ _ _ _ (permIn_trans _ _ _ _ _ (HG.out.2 lo hi h1 h2 h3) (permIn_mono _ _ _ _ _ _ (by omega) (by omega) (by omega) HPA.out.1)) (permIn_mono _ _ _ _ _ _ (by omega) (by omega) (by omega) HPB.out.1), S4.out⟩
            · have y2 : ¬ (i : Int) < (mid : Int) := by omega
              have HPA : Hid (PermIn a mid r r ∧ SortedIn lt a mid r) := ⟨permIn_refl r a mid, fun x y h1 h2 h3 => HP.out.1.one x y h1 h2 (by omega)⟩
              have S3 := S2
              obtain ⟨d1, hd1⟩ : ∃ d1, r = d1 := ⟨_, rfl⟩
              rw [hd1] at S3
              have HPA' : Hid (PermIn a mid r d1 ∧ SortedIn lt a mid d1) := by subst hd1; exact HPA
              clear HPA S2 hd1
              have HPA := HPA'
              obtain ⟨w2, hw2⟩ : ∃ w2, w1 = w2 := ⟨_, rfl⟩
              rw [hw2] at S3
              rw [hw2]
              clear hw2
              have hszd1 : d1.size = d.size := by rw [HPA.out.1.1]; exact hszr
              have HT2 := Lib.hid (Two.keep HP.out.2.1 (fun p h1 _ => HPA.out.1.2.1 p (.inr h1)) (by omega) (by omega))
              rcases Nat.lt_or_ge mid en with q2 | q2
              · have z1 : (mid : Int) < (en : Int) := by omega
                rcases Nat.lt_or_ge en b with q3 | q3
                · have z2 : (en : Int) < (b : Int) := by omega
                  have hc := HIH.out (mid) (en) (b) d1 w2 (by omega) (by omega) S3.out (by omega) (by omega) (by omega) (by omega) HT2.out
                  rw [hszd1] at hc
                  have HK := Lib.hid hc
                  clear hc
                  go_wp2_with fail
                  all_goals
                    refine HK.out.mono ?_
                    rintro e w3 ⟨rfl, d2, g1, g2, g3⟩
                    have HPB := Lib.hid (And.intro (g2 mid b (Nat.le_refl _) (Nat.le_refl _) (by omega)) g1)
                    have S4 : Aside (SWK enc k w0 blk off d2 w3) := g3
                    clear g1 g2 g3 S3
                    go_wp2_with fail
                    all_goals
                      go_end0
                      exact ⟨rfl, d2, merged (mid := mid) (by rw [hszr]; exact hb) (by omega) HP.out.2.2 HPA.out.1 HPA.out.2 HPB.out.1 HPB.out.2, fun lo hi h1 h2 h3 => permIn_trans _ _ _ _ _ (permIn_trans _ _ _ _ _ (HG.out.2 lo hi h1 h2 h3) (permIn_mono _ _ _ _ _ _ (by omega) (by omega) (by omega) HPA.out.1)) (permIn_mono _ _ _ _ _ _ (by omega) (by omega) (by omega) HPB.out.1), S4.out⟩
                · have z2 : ¬ (en : Int) < (b : Int) := by omega
                  have HPB := Lib.hid (And.intro (permIn_refl d1 mid b) (show SortedIn lt mid b d1 from fun x y h1 h2 h3 => HT2.out.one x y h1 h2 (by omega)))
                  have S4 := S3
                  obtain ⟨d2, hd2⟩ : ∃ d2, d1 = d2 := ⟨_, rfl⟩
                  rw [hd2] at S4
                  have HPB' : Hid (PermIn mid b d1 d2 ∧ SortedIn lt mid b d2) := by subst hd2; exact HPB
                  clear HPB S3 hd2
                  have HPB := HPB'
                  go_wp2_with fail
                  all_goals
                    go_end0
                    exact ⟨rfl, d2, merged (mid := mid) (by rw [hszr]; exact hb) (by omega) HP.out.2.2 HPA.out.1 HPA.out.2 HPB.out.1 HPB.out.2, fun lo hi h1 h2 h3 => permIn_trans _ _ _ _ _ (permIn_trans _ _ _ _ _ (HG.out.2 lo hi h1 h2 h3) (permIn_mono _ _ _ _ _ _ (by omega) (by omega) (by omega) HPA.out.1)) (permIn_mono _ _ _ _ _ _ (by omega) (by omega) (by omega) HPB.out.1), S4.out⟩
              · have z1 : ¬ (mid : Int) < (en : Int) := by omega
                have HPB := Lib.hid (And.intro (permIn_refl d1 mid b) (show SortedIn lt mid b d1 from fun x y h1 h2 h3 => HT2.out.two x y (by omega) h2 h3))
                have S4 := S3
                obtain ⟨d2, hd2⟩ : ∃ d2, d1 = d2 := ⟨_, rfl⟩
                rw [hd2] at S4
                have HPB' : Hid (PermIn mid b d1 d2 ∧ SortedIn lt mid b d2) := by subst hd2; exact HPB
                clear HPB S3 hd2
                have HPB := HPB'
                go_wp2_with fail
                all_goals
                  go_end0
                  exact ⟨rfl, d2, merged (mid := mid) (by rw [hszr]; exact hb) (by omega) HP.out.2.2 HPA.out.1 HPA.out.2 HPB.out.1 HPB.out.2, fun lo hi h1 h2 h3 => permIn_trans _ _ _ _ _ (permIn_trans _ _ _ _ _ (HG.out.2 lo hi h1 h2 h3) (permIn_mono _ _ _ _ _ _ (by omega) (by omega) (by omega) HPA.out.1)) (permIn_mono _ _ _ _ _ _ (by omega) (by omega) (by omega) HPB.out.1), S4.out⟩
          · have y1 : ¬ (a : Int) < (i : Int) := by omega
            have HPA : Hid (PermIn a mid r r ∧ SortedIn lt a mid r) := ⟨permIn_refl r a mid, fun x y h1 h2 h3 => HP.out.1.two x y (by omega) h2 h3⟩
            have S3 := S2
            obtain ⟨d1, hd1⟩ : ∃ d1, r = d1 := ⟨_, rfl⟩
            rw [hd1] at S3
            have HPA' : Hid (PermIn a mid r d1 ∧ SortedIn lt a mid d1) := by subst hd1; exact HPA
            clear HPA S2 hd1
            have HPA := HPA'
            obtain ⟨w2, hw2⟩ : ∃ w2, w1 = w2 := ⟨_, rfl⟩
            rw [hw2] at S3
            rw [hw2]
            clear hw2
            have hszd1 : d1.size = d.size := by rw [HPA.out.1.1]; exact hszr
            have HT2 := Lib.hid (Two.keep HP.out.2.1 (fun p h1 _ => HPA.out.1.2.1 p (.inr h1)) (by omega) (by omega))
            rcases Nat.lt_or_ge mid en with q2 | q2
            · have z1 : (mid : Int) < (en : Int) := by omega
              rcases Nat.lt_or_ge en b with q3 | q3
              · have z2 : (en : Int) < (b : Int) := by omega
                have hc := HIH.out (mid) (en) (b) d1 w2 (by omega) (by omega) S3.out (by omega) (by omega) (by omega) (by omega) HT2.out
                rw [hszd1] at hc
                have HK := Lib.hid hc
                clear hc
                go_wp2_with fail
                all_goals
                  refine HK.out.mono ?_
                  rintro e w3 ⟨rfl, d2, g1, g2, g3⟩
                  have HPB := Lib.hid (And.intro (g2 mid b (Nat.le_refl _) (Nat.le_refl _) (by omega)) g1)
                  have S4 : Aside (SWK enc k w0 blk off d2 w3) := g3
                  clear g1 g2 g3 S3
                  go_wp2_with fail
                  all_goals
                    go_end0
                    exact ⟨rfl, d2, merged (mid := mid) (by rw [hszr]; exact hb) (by omega) HP.out.2.2 HPA.out.1 HPA.out.2 HPB.out.1 HPB.out.2, fun lo hi h1 h2 h3 => permIn_trans _ _ _ _ _ (permIn_trans _ _ _ _ _ (HG.out.2 lo hi h1 h2 h3) (permIn_mono _ _ _ _ _ _ (by omega) (by omega) (by omega) HPA.out.1)) (permIn_mono _ _ _ _ _ _ (by omega) (by omega) (by omega) HPB.out.1), S4.out⟩
              · have z2 : ¬ (en : Int) < (b : Int) := by omega
                have HPB := Lib.hid (And.intro (permIn_refl d1 mid b) (show SortedIn lt mid b d1 from fun x y h1 h2 h3 => HT2.out.one x y h1 h2 (by omega)))
                have S4 := S3
                obtain ⟨d2, hd2⟩ : ∃ d2, d1 = d2 := ⟨_, rfl⟩
                rw [hd2] at S4
                have HPB' : Hid (PermIn mid b d1 d2 ∧ SortedIn lt mid b d2) := by subst hd2; exact HPB
                clear HPB S3 hd2
                have HPB := HPB'
                go_wp2_with fail
                all_goals
                  go_end0
                  exact ⟨rfl, d2, merged (mid := mid) (by rw [hszr]; exact hb) (by omega) HP.out.2.2 HPA.out.1 HPA.out.2 HPB.out.1 HPB.out.2, fun lo hi h1 h2 h3 => permIn_trans _ _ _ _ _ (permIn_trans _ _ _ _ _ (HG.out.2 lo hi h1 h2 h3) (permIn_mono _ _ _ _ _ _ (by omega) (by omega) (by omega) HPA.out.1)) (permIn_mono _ _ _ _ _ _ (by omega) (by omega) (by omega) HPB.out.1), S4.out⟩
            · have z1 : ¬ (mid : Int) < (en : Int) := by omega
              have HPB := Lib.hid (And.intro (permIn_refl d1 mid b) (show SortedIn lt mid b d1 from fun x y h1 h2 h3 => HT2.out.two x y (by omega) h2 h3))
              have S4 := S3
              obtain ⟨d2, hd2⟩ : ∃ d2, d1 = d2 := ⟨_, rfl⟩
              rw [hd2] at S4
              have HPB' : Hid (PermIn mid b d1 d2 ∧ SortedIn lt mid b d2) := by subst hd2; exact HPB
              clear HPB S3 hd2
              have HPB := HPB'
              go_wp2_with fail
              all_goals
                go_end0
                exact ⟨rfl, d2, merged (mid := mid) (by rw [hszr]; exact hb) (by omega) HP.out.2.2 HPA.out.1 HPA.out.2 HPB.out.1 HPB.out.2, fun lo hi h1 h2 h3 => permIn_trans _ _ _ _ _ (permIn_trans _ _ _ _ _ (HG.out.2 lo hi h1 h2 h3) (permIn_mono _ _ _ _ _ _ (by omega) (by omega) (by omega) HPA.out.1)) (permIn_mono _ _ _ _ _ _ (by omega) (by omega) (by omega) HPB.out.1), S4.out⟩
      · have x1 : ¬ (i : Int) < (m : Int) := by omega
        have HG : Hid (Rot i m en d d ∧ ∀ lo hi, lo ≤ a → b ≤ hi → hi ≤ d.size → PermIn lo hi d d) := ⟨by rw [show i = m from by omega]; exact Rot.none1 m en d, fun _ _ _ _ _ => permIn_refl d _ _⟩
        obtain ⟨r, hr⟩ : ∃ r, d = r := ⟨_, rfl⟩
        have S2 : Aside (SWK enc k w0 blk off r wr) := by rw [← hr]; exact S1
        have HG' : Hid (Rot i m en d r ∧ ∀ lo hi, lo ≤ a → b ≤ hi → hi ≤ d.size → PermIn lo hi d r) := by rw [← hr]; exact HG
        clear HG S1 hr
        have HG := HG'
        obtain ⟨w1, hw1⟩ : ∃ w1, wr = w1 := ⟨_, rfl⟩
        rw [hw1] at S2
        rw [hw1]
        clear hw1
        have hszr : r.size = d.size := HG.out.1.1
        have HP := Lib.hid (Two.parts (mid := mid) hS HT.out hast hstm hmen henb (by omega) HG.out.1 HB.out.1 HB.out.2)
        rcases Nat.lt_or_ge a i with q1 | q1
        · have y1 : (a : Int) < (i : Int) := by omega
          rcases Nat.lt_or_ge i mid with q2 | q2
          · have y2 : (i : Int) < (mid : Int) := by omega
            have hc := HIH.out (a) (i) (mid) r w1 (by omega) (by omega) S2.out (by omega) (by omega) (by omega) (by omega) HP.out.1
            rw [hszr] at hc
            have HK := Lib.hid hc
            clear hc
            go_wp2_with fail
            all_goals
              refine HK.out.mono ?_
              rintro e w2 ⟨rfl, d1, g1, g2, g3⟩
              have HPA := Lib.hid (And.intro (g2 a mid (Nat.le_refl _) (Nat.le_refl _) (by omega)) g1)
              have S3 : Aside (SWK enc k w0 blk off d1 w2) := g3
              clear g1 g2 g3 S2
              have hszd1 : d1.size = d.size := by rw [HPA.out.1.1]; exact hszr
              have HT2 := Lib.hid (Two.keep HP.out.2.1 (fun p h1 _ => HPA.out.1.2.1 p (.inr h1)) (by omega) (by omega))
              rcases Nat.lt_or_ge mid en with q2 | q2
              · have z1 : (mid : Int) < (en : Int) := by omega
                rcases Nat.lt_or_ge en b with q3 | q3
                · have z2 : (en : Int) < (b : Int) := by omega
                  have hc := HIH.out (mid) (en) (b) d1 w2 (by omega) (by omega) S3.out (by omega) (by omega) (by omega) (by omega) HT2.out
                  rw [hszd1] at hc
                  have HK := Lib.hid hc
                  clear hc
                  go_wp2_with fail
                  all_goals
                    refine HK.out.mono ?_
                    rintro e w3 ⟨rfl, d2, g1, g2, g3⟩
                    have HPB := Lib.hid (And.intro (g2 mid b (Nat.le_refl _) (Nat.le_refl _) (by omega)) g1)
                    have S4 : Aside (SWK enc k w0 blk off d2 w3) := g3
                    clear g1 g2 g3 S3
                    go_wp2_with fail
                    all_goals
                      go_end0
                      exact ⟨rfl, d2, merged (mid := mid) (by rw [hszr]; exact hb) (by omega) HP.out.2.2 HPA.out.1 HPA.out.2 HPB.out.1 HPB.out.2, fun lo hi h1 h2 h3 => permIn_trans _ _ _ _ _ (permIn_trans _ _ _ _ _ (HG.out.2 lo hi h1 h2 h3) (permIn_mono _ _ _ _ _ _ (by omega) (by omega) (by omega) HPA.out.1)) (permIn_mono _ _ _ _ _ _ (by omega) (by omega) (by omega) HPB.out.1), S4.out⟩
                · have z2 : ¬ (en : Int) < (b : Int) := by omega
                  have HPB := Lib.hid (And.intro (permIn_refl d1 mid b) (show SortedIn lt mid b d1 from fun x y h1 h2 h3 => HT2.out.one x y h1 h2 (by omega)))
                  have S4 := S3
                  obtain ⟨d2, hd2⟩ : ∃ d2, d1 = d2 := ⟨_, rfl⟩
                  rw [hd2] at S4
                  have HPB' : Hid (PermIn mid b d1 d2 ∧ SortedIn lt mid b d2) := by subst hd2; exact HPB
                  clear HPB S3 hd2
                  have HPB := HPB'
                  go_wp2_with fail
                  all_goals
                    go_end0
                    exact ⟨rfl, d2, merged (mid := mid) (by rw [hszr]; exact hb) (by omega) HP.out.2.2 HPA.out.1 HPA.out.2 HPB.out.1 HPB.out.2, fun lo hi h1 h2 h3 => permIn_trans _ _ _ _ _ (permIn_trans _ _ _ _ _ (HG.out.2 lo hi h1 h2 h3) (permIn_mono _ _ _ _ _ _ (by omega) (by omega) (by omega) HPA.out.1)) (permIn_mono _ _ _ _ _ _ (by omega) (by omega) (by omega) HPB.out.1), S4.out⟩
              · have z1 : ¬ (mid : Int) < (en : Int) := by omega
                have HPB := Lib.hid (And.intro (permIn_refl d1 mid b) (show SortedIn lt mid b d1 from fun x y h1 h2 h3 => HT2.out.two x y (by omega) h2 h3))
                have S4 := S3
                obtain ⟨d2, hd2⟩ : ∃ d2, d1 = d2 := ⟨_, rfl⟩
                rw [hd2] at S4
                have HPB' : Hid (PermIn mid b d1 d2 ∧ SortedIn lt mid b d2) := by subst hd2; exact HPB
                clear HPB S3 hd2
                have HPB := HPB'
                go_wp2_with fail
                all_goals
                  go_end0
                  exact ⟨rfl, d2, merged (mid := mid) (by rw [hszr]; exact hb) (by omega) HP.out.2.2 HPA.out.1 HPA.out.2 HPB.out.1 HPB.out.2, fun lo hi h1 h2 h3 => permIn_trans _ _ _ _ _ (permIn_trans _ _ _ _ _ (HG.out.2 lo hi h1 h2 h3) (permIn_mono _ _ _ _ _ _ (by omega) (by omega) (by omega) HPA.out.1)) (permIn_mono _ _ _ _ _ _ (by omega) (by omega) (by omega) HPB.out.1), S4.out⟩
          · have y2 : ¬ (i : Int) < (mid : Int) := by omega
            have HPA : Hid (PermIn a mid r r ∧ SortedIn lt a mid r) := ⟨permIn_refl r a mid, fun x y h1 h2 h3 => HP.out.1.one x y h1 h2 (by omega)⟩
            have S3 := S2
            obtain ⟨d1, hd1⟩ : ∃ d1, r = d1 := ⟨_, rfl⟩
            rw [hd1] at S3
            have HPA' : Hid (PermIn a mid r d1 ∧ SortedIn lt a mid d1) := by subst hd1; exact HPA
            clear HPA S2 hd1
            have HPA := HPA'
            obtain ⟨w2, hw2⟩ : ∃ w2, w1 = w2 := ⟨_, rfl⟩
            rw [hw2] at S3
            rw [hw2]
            clear hw2
            have hszd1 : d1.size = d.size := by rw [HPA.out.1.1]; exact hszr
            have HT2 := Lib.hid (Two.keep HP.out.2.1 (fun p h1 _ => HPA.out.1.2.1 p (.inr h1)) (by omega) (by omega))
            rcases Nat.lt_or_ge mid en with q2 | q2
            · have z1 : (mid : Int) < (en : Int) := by omega
              rcases Nat.lt_or_ge en b with q3 | q3
              · have z2 : (en : Int) < (b : Int) := by omega
                have hc := HIH.out (mid) (en) (b) d1 w2 (by omega) (by omega) S3.out (by omega) (by omega) (by omega) (by omega) HT2.out
                rw [hszd1] at hc
                have HK := Lib.hid hc
                clear hc
                go_wp2_with fail
                all_goals
                  refine HK.out.mono ?_
                  rintro e w3 ⟨rfl, d2, g1, g2, g3⟩
                  have HPB := Lib.hid (And.intro (g2 mid b (Nat.le_refl _) (Nat.le_refl _) (by omega)) g1)
                  have S4 : Aside (SWK enc k w0 blk off d2 w3) := g3
                  clear g1 g2 g3 S3
                  go_wp2_with fail
                  all_goals
                    go_end0
                    exact ⟨rfl, d2, merged (mid := mid) (by rw [hszr]; exact hb) (by omega) HP.out.2.2 HPA.out.1 HPA.out.2 HPB.out.1 HPB.out.2, fun lo hi h1 h2 h3 => permIn_trans _ _ _ _ _ (permIn_trans _ _ _ _ _ (HG.out.2 lo hi h1 h2 h3) (permIn_mono _ _ _ _ _ _ (by omega) (by omega) (by omega) HPA.out.1)) (permIn_mono _ _ _ _ _ _ (by omega) (by omega) (by omega) HPB.out.1), S4.out⟩
              · have z2 : ¬ (en : Int) < (b : Int) := by omega
                have HPB := Lib.hid (And.intro (permIn_refl d1 mid b) (show SortedIn lt mid b d1 from fun x y h1 h2 h3 => HT2.out.one x y h1 h2 (by omega)))
                have S4 := S3
                obtain ⟨d2, hd2⟩ : ∃ d2, d1 = d2 := ⟨_, rfl⟩
                rw [hd2] at S4
                have HPB' : Hid (PermIn mid b d1 d2 ∧ SortedIn lt mid b d2) := by subst hd2; exact HPB
                clear HPB S3 hd2
                have HPB := HPB'
                go_wp2_with fail
                all_goals
                  go_end0
                  exact ⟨rfl, d2, merged (mid := mid) (by rw [hszr]; exact hb) (by omega) HP.out.2.2 HPA.out.1 HPA.out.2 HPB.out.1 HPB.out.2, fun lo hi h1 h2 h3 => permIn_trans _ _ _ _ _ (permIn_trans _ _ _ _ _ (HG.out.2 lo hi h1 h2 h3) (permIn_mono _ _ _ _ _ _ (by omega) (by omega) (by omega) HPA.out.1)) (permIn_mono _ _ _ _ _ _ (by omega) (by omega) (by omega) HPB.out.1), S4.out⟩
            · have z1 : ¬ (mid : Int) < (en : Int) := by omega
              have HPB := Lib.hid (And.intro (permIn_refl d1 mid b) (show SortedIn lt mid b d1 from fun x y h1 h2 h3 => HT2.out.two x y (by omega) h2 h3))
              have S4 := S3
              obtain ⟨d2, hd2⟩ : ∃ d2, d1 = d2 := ⟨_, rfl⟩
              rw [hd2] at S4
              have HPB' : Hid (PermIn mid b d1 d2 ∧ SortedIn lt mid b d2) := by subst hd2; exact HPB
              clear HPB S3 hd2
              have HPB := HPB'
              go_wp2_with fail
              all_goals
                go_end0
                exact ⟨rfl, d2, merged (mid := mid) (by rw [hszr]; exact hb) (by omega) HP.out.2.2 HPA.out.1 HPA.out.2 HPB.out.1 HPB.out.2, fun lo hi h1 h2 h3 => permIn_trans _ _ _ _ _ (permIn_trans _ _ _ _ _ (HG.out.2 lo hi h1 h2 h3) (permIn_mono _ _ _ _ _ _ (by omega) (by omega) (by omega) HPA.out.1)) (permIn_mono _ _ _ _ _ _ (by omega) (by omega) (by omega) HPB.out.1), S4.out⟩
        · have y1 : ¬ (a : Int) < (i : Int) := by omega
          have HPA : Hid (PermIn a mid r r ∧ SortedIn lt a mid r) := ⟨permIn_refl r a mid, fun x y h1 h2 h3 => HP.out.1.two x y (by omega) h2 h3⟩
          have S3 := S2
          obtain ⟨d1, hd1⟩ : ∃ d1, r = d1 := ⟨_, rfl⟩
          rw [hd1] at S3
          have HPA' : Hid (PermIn a mid r d1 ∧ SortedIn lt a mid d1) := by subst hd1; exact HPA
          clear HPA S2 hd1
          have HPA := HPA'
          obtain ⟨w2, hw2⟩ : ∃ w2, w1 = w2 := ⟨_, rfl⟩
          rw [hw2] at S3
          rw [hw2]
          clear hw2
          have hszd1 : d1.size = d.size := by rw [HPA.out.1.1]; exact hszr
          have HT2 := Lib.hid (Two.keep HP.out.2.1 (fun p h1 _ => HPA.out.1.2.1 p (.inr h1)) (by omega) (by omega))
          rcases Nat.lt_or_ge mid en with q2 | q2
          · have z1 : (mid : Int) < (en : Int) := by omega
            rcases Nat.lt_or_ge en b with q3 | q3
            · have z2 : (en : Int) < (b : Int) := by omega
              have hc := HIH.out (mid) (en) (b) d1 w2 (by omega) (by omega) S3.out (by omega) (by omega) (by omega) (by omega) HT2.out
              rw [hszd1] at hc
              have HK := Lib.hid hc
              clear hc
              go_wp2_with fail
              all_goals
                refine HK.out.mono ?_
                rintro e w3 ⟨rfl, d2, g1, g2, g3⟩
                have HPB := Lib.hid (And.intro (g2 mid b (Nat.le_refl _) (Nat.le_refl _) (by omega)) g1)
                have S4 : Aside (SWK enc k w0 blk off d2 w3) := g3
                clear g1 g2 g3 S3
                go_wp2_with fail
                all_goals
                  go_end0
                  exact ⟨rfl, d2, merged (mid := mid) (by rw [hszr]; exact hb) (by omega) HP.out.2.2 HPA.out.1 HPA.out.2 HPB.out.1 HPB.out.2, fun lo hi h1 h2 h3 => permIn_trans _ _ _ _ _ (permIn_trans _ _ _ _ _ (HG.out.2 lo hi h1 h2 h3) (permIn_mono _ _ _ _ _ _ (by omega) (by omega) (by omega) HPA.out.1)) (permIn_mono _ _ _ _ _ _ (by omega) (by omega) (by omega) HPB.out.1), S4.out⟩
            · have z2 : ¬ (en : Int) < (b : Int) := by omega
              have HPB := Lib.hid (And.intro (permIn_refl d1 mid b) (show SortedIn lt mid b d1 from fun x y h1 h2 h3 => HT2.out.one x y h1 h2 (by omega)))
              have S4 := S3
              obtain ⟨d2, hd2⟩ : ∃ d2, d1 = d2 := ⟨_, rfl⟩
              rw [hd2] at S4
              have HPB' : Hid (PermIn mid b d1 d2 ∧ SortedIn lt mid b d2) := by subst hd2; exact HPB
              clear HPB S3 hd2
              have HPB := HPB'
              go_wp2_with fail
              all_goals
                go_end0
                exact ⟨rfl, d2, merged (mid := mid) (by rw [hszr]; exact hb) (by omega) HP.out.2.2 HPA.out.1 HPA.out.2 HPB.out.1 HPB.out.2, fun lo hi h1 h2 h3 => permIn_trans _ _ _ _ _ (permIn_trans _ _ _ _ _ (HG.out.2 lo hi h1 h2 h3) (permIn_mono _ _ _ _ _ _ (by omega) (by omega) (by omega) HPA.out.1)) (permIn_mono _ _ _ _ _ _ (by omega) (by omega) (by omega) HPB.out.1), S4.out⟩
          · have z1 : ¬ (mid : Int) < (en : Int) := by omega
            have HPB := Lib.hid (And.intro (permIn_refl d1 mid b) (show SortedIn lt mid b d1 from fun x y h1 h2 h3 => HT2.out.two x y (by omega) h2 h3))
            have S4 := S3
            obtain ⟨d2, hd2⟩ : ∃ d2, d1 = d2 := ⟨_, rfl⟩
            rw [hd2] at S4
            have HPB' : Hid (PermIn mid b d1 d2 ∧ SortedIn lt mid b d2) := by subst hd2; exact HPB
            clear HPB S3 hd2
            have HPB := HPB'
            go_wp2_with fail
            all_goals
              go_end0
              exact ⟨rfl, d2, merged (mid := mid) (by rw [hszr]; exact hb) (by omega) HP.out.2.2 HPA.out.1 HPA.out.2 HPB.out.1 HPB.out.2, fun lo hi h1 h2 h3 => permIn_trans _ _ _ _ _ (permIn_trans _ _ _ _ _ (HG.out.2 lo hi h1 h2 h3) (permIn_mono _ _ _ _ _ _ (by omega) (by omega) (by omega) HPA.out.1)) (permIn_mono _ _ _ _ _ _ (by omega) (by omega) (by omega) HPB.out.1), S4.out⟩
end
end Go.Proofs.Ytpabblkdepefcaa
