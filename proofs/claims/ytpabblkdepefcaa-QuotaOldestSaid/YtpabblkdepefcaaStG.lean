/- A stable sort of fewer than forty elements, over any program that bears its functions. -/
import Derived.Test.YtpabblkdepefcaaStF
namespace Go.Proofs.Ytpabblkdepefcaa
open Go.Shelf Go.RowKit Go.Lib Go.Sort
section
variable {P : Program} {α : Type} [Inhabited α] {k : Nat}
theorem came_two {lt : α → α → Bool} {og : α → α → Prop} {m n : Nat} {d d1 d2 : Array α} (hn : n ≤ d.size) (hC : Came og 0 n d) (p1 : PermIn 0 m d d1) (s1 : SortedIn lt 0 m d1) (p2 : PermIn m n d1 d2) (s2 : SortedIn lt m n d2) : Two lt og 0 m n d2 := by
  have e2 : ∀ p, p < m → d2[p]! = d1[p]! := fun p hp => p2.2.1 p (.inl hp)
  have e1 : ∀ p, m ≤ p → d1[p]! = d[p]! := fun p hp => p1.2.1 p (.inr hp)
  refine ⟨fun i j hi hij hj => by rw [e2 i (by omega), e2 j hj]; exact s1 i j hi hij hj, s2, fun i j _ him hj hjn => ?_⟩
  rw [e2 i him]
  refine permIn_all d1 d2 m n (fun x => og d1[i]! x) (by rw [p1.1]; exact hn) p2 (fun j hj hjn => ?_) j hj hjn
  rw [e1 j hj]
  exact permIn_all d d1 0 m (fun x => og x d[j]!) (by omega) p1 (fun i _ him => hC i j (Nat.zero_le _) (by omega) hjn) i (Nat.zero_le _) him
set_option maxHeartbeats 16000000 in
set_option maxRecDepth 1000000 in
theorem stable_any (L : StL P k) (enc : α → List Value) (cf : α → α → Int) (lt : α → α → Bool) (og : α → α → Prop) (hS : SWO lt) (hL : ∀ x y, og x y → ltOf cf y x = lt y x) (g : Nat) (cb : Array Value) (blk off cap : Nat) (d : Array α) (w : World)
    (eg : ∀ args w, (callFunc g args).run P w = .ok (.enter g args) w) (hcmp : CmpLays P g cb enc k cf blk off d.size w) (R : RowK enc k w blk off d) (h40 : d.size < 40) (hC : Came og 0 d.size d)
    (hIns : ∀ (a b : Nat) (dx : Array α) (wx : World), d.size = dx.size → SWK enc k w blk off dx wx → a ≤ b → b ≤ dx.size → Calls P 34 #[.slice (some ⟨blk, off, none⟩) dx.size cap, .int .i64 a, .int .i64 b, .func (.func g) #[] cb] wx fun e w' => e = .returned (.tuple #[]) ∧ SWK enc k w blk off (insertionSort (ltOf cf) dx a b) w') :
    Calls P 31 #[.slice (some ⟨blk, off, none⟩) d.size cap, .int .i64 d.size, .func (.func g) #[] cb] w fun e w' =>
      e = .returned (.tuple #[]) ∧ ∃ d', SortedIn lt 0 d.size d' ∧ PermIn 0 d.size d d' ∧ SWK enc k w blk off d' w' := by
  have mixed := L.mixed; have t0 := L.t0; have a0 := L.a0; have z0 := L.z0; have v0 := L.v0; have t3 := L.t3; have a3 := L.a3; have z3 := L.z3; have v3 := L.v3; have t4 := L.t4; have a4 := L.a4; have z4 := L.z4; have v4 := L.v4; have t22 := L.t22; have a22 := L.a22; have z22 := L.z22; have v22 := L.v22; have t25 := L.t25; have a25 := L.a25; have z25 := L.z25; have v25 := L.v25; have aE := L.aE; have zE := L.zE
  have FG := L.f31
  have e34 := L.e34
  have e35 : ∀ args w, (callFunc 35 args).run P w = .ok (.enter 35 args) w := (ofF L.f35 (by kernel_rfl)).enters rfl
  have HM := Lib.hid (symMerge_any L enc cf lt og hS hL g cb blk off cap d w eg hcmp R)
  have S0 : Aside (SWK enc k w blk off d w) := SWK.start R.hH
  have HI := Lib.hid hIns
  have HCA := Lib.hid hC
  have HCF := Lib.hid hcmp
  clear hcmp hIns hC
  obtain ⟨n, hn⟩ : ∃ n, d.size = n := ⟨_, rfl⟩
  have HN := Lib.hid hn
  go_enter FG, Try.ntmps31
  by_cases hlt : n < 20
  · have hz1 : ¬ (20 : Int) ≤ (n : Int) := by omega
    have hz2 : ¬ (20 : Int) < (n : Int) := by omega
    have hst := insertion_stable (lt1 := ltOf cf) hS hL (Nat.zero_le d.size) (Nat.le_refl _) HCA.out
    have hc := HI.out 0 d.size d w rfl S0.out (Nat.zero_le _) (Nat.le_refl _)
    rw [hn] at hc hst ⊢
    have HST := Lib.hid hst
    have HC := Lib.hid hc
    clear hn hc hst
    go_wp2
    refine wp_loop_rounds 1 ?_
    rw [rounds_succ]
    go_wp2_with fail
    refine HC.out.mono ?_
    rintro e w1 ⟨rfl, h1⟩
    have H1 := Lib.hid h1
    clear h1
    go_wp2_with fail
    refine wp_loop_rounds 1 ?_
    rw [rounds_succ]
    go_wp2_with fail
    go_end0
    exact ⟨rfl, _, HST.out.2, HST.out.1, H1.out⟩
  · have hz1 : (20 : Int) ≤ (n : Int) := by omega
    have hz0 : ¬ (40 : Int) ≤ (n : Int) := by omega
    have c0 : Came og 0 20 d := fun p q h1 h2 h3 => HCA.out p q h1 h2 (by omega)
    have st1 := insertion_stable (lt1 := ltOf cf) hS hL (Nat.zero_le 20) (show 20 ≤ d.size by omega) c0
    have hc1 := HI.out 0 20 d w rfl S0.out (Nat.zero_le _) (by omega)
    obtain ⟨d1, hd1⟩ : ∃ d1, insertionSort (ltOf cf) d 0 20 = d1 := ⟨_, rfl⟩
    rw [hd1] at hc1 st1
    have hd1s : d1.size = d.size := st1.1.1
    have c1 : Came og 20 n d1 := fun p q h1 h2 h3 => by rw [st1.1.2.1 p (.inr h1), st1.1.2.1 q (.inr (by omega))]; exact HCA.out p q (Nat.zero_le _) h2 (by omega)
    have st2 := insertion_stable (lt1 := ltOf cf) hS hL (show 20 ≤ n by omega) (show n ≤ d1.size by omega) c1
    have hc2 : ∀ wx, SWK enc k w blk off d1 wx → _ := fun wx h => HI.out 20 n d1 wx hd1s.symm h (by omega) (by omega)
    obtain ⟨d2, hd2⟩ : ∃ d2, insertionSort (ltOf cf) d1 20 n = d2 := ⟨_, rfl⟩
    rw [hd2] at hc2 st2
    have hd2s : d2.size = d.size := st2.1.1.trans hd1s
    have hT : Two lt og 0 20 n d2 := came_two (by omega) (by rw [← HN.out]; exact HCA.out) st1.1 st1.2 st2.1 st2.2
    have hP : PermIn 0 n d d2 := permIn_trans _ _ _ _ _ (permIn_mono _ _ _ _ _ _ (Nat.le_refl _) (by omega) (by omega) st1.1) (permIn_mono _ _ _ _ _ _ (Nat.zero_le _) (Nat.le_refl _) (by omega) st2.1)
    rw [hn] at hc1
    rw [hd1s, hn] at hc2
    have hc3 : ∀ wx, 20 < n → SWK enc k w blk off d2 wx → _ := fun wx h20 h => HM.out (n + 1) 0 20 n d2 wx (by omega) hd2s.symm h (by omega) h20 (by omega) (by omega) hT
    rw [hd2s, hn] at hc3
    rw [hn]
    have H1 := Lib.hid hc1
    have H2 := Lib.hid hc2
    have H3 := Lib.hid hc3
    have HT := Lib.hid hT
    have HP := Lib.hid hP
    clear hc1 hc2 hc3 hT hP st1 st2 c0 c1 hd1 hd2 hd1s hd2s hn HM HI
    go_wp2
    refine wp_loop_rounds 2 ?_
    rw [rounds_succ]
    go_wp2_with fail
    refine H1.out.mono ?_
    rintro e w1 ⟨rfl, h1⟩
    have S1 := Lib.hid h1
    clear h1
    go_wp2_with fail
    rw [rounds_succ]
    go_wp2_with fail
    refine (H2.out w1 S1.out).mono ?_
    rintro e w2 ⟨rfl, h1⟩
    have S2 := Lib.hid h1
    clear h1
    by_cases h20 : 20 < n
    · have hz2 : (20 : Int) < (n : Int) := by omega
      have hz3 : ¬ (40 : Int) < (n : Int) := by omega
      go_wp2_with fail
      refine wp_loop_rounds 2 ?_
      rw [rounds_succ]
      go_wp2_with fail
      refine wp_loop_rounds 1 ?_
      rw [rounds_succ]
      go_wp2_with fail
      refine (H3.out w2 h20 S2.out).mono ?_
      rintro e w3 ⟨rfl, d3, h1, h2, h3⟩
      have E := Lib.hid (And.intro h1 (And.intro (h2 0 n (Nat.le_refl _) (Nat.le_refl _) (Nat.le_refl _)) h3))
      clear h1 h2 h3
      go_wp2_with fail
      rw [rounds_succ]
      go_wp2_with fail
      go_end0
      exact ⟨rfl, d3, E.out.1, permIn_trans _ _ _ _ _ HP.out E.out.2.1, E.out.2.2⟩
    · have hz2 : ¬ (20 : Int) < (n : Int) := by omega
      go_wp2_with fail
      refine wp_loop_rounds 1 ?_
      rw [rounds_succ]
      go_wp2_with fail
      go_end0
      refine ⟨rfl, d2, ?_, HP.out, S2.out⟩
      have h21 : n = 20 := by omega
      rw [h21]
      exact HT.out.one
set_option maxHeartbeats 4000000 in
theorem sortStable_any (L : StL P k) (enc : α → List Value) (cf : α → α → Int) (lt : α → α → Bool) (og : α → α → Prop) (hS : SWO lt) (hL : ∀ x y, og x y → ltOf cf y x = lt y x) (g : Nat) (cb : Array Value) (blk off cap : Nat) (d : Array α) (w : World)
    (eg : ∀ args w, (callFunc g args).run P w = .ok (.enter g args) w) (hcmp : CmpLays P g cb enc k cf blk off d.size w) (R : RowK enc k w blk off d) (h40 : d.size < 40) (hC : Came og 0 d.size d)
    (hIns : ∀ (a b : Nat) (dx : Array α) (wx : World), d.size = dx.size → SWK enc k w blk off dx wx → a ≤ b → b ≤ dx.size → Calls P 34 #[.slice (some ⟨blk, off, none⟩) dx.size cap, .int .i64 a, .int .i64 b, .func (.func g) #[] cb] wx fun e w' => e = .returned (.tuple #[]) ∧ SWK enc k w blk off (insertionSort (ltOf cf) dx a b) w') :
    Calls P 27 #[.slice (some ⟨blk, off, none⟩) d.size cap, .func (.func g) #[] cb] w fun e w' =>
      e = .returned (.tuple #[]) ∧ ∃ d', SortedIn lt 0 d.size d' ∧ PermIn 0 d.size d d' ∧ SWK enc k w blk off d' w' := by
  have HS := Lib.hid (stable_any L enc cf lt og hS hL g cb blk off cap d w eg hcmp R h40 hC hIns)
  have mixed := L.mixed; have t0 := L.t0; have a0 := L.a0; have z0 := L.z0; have v0 := L.v0; have t3 := L.t3; have a3 := L.a3; have z3 := L.z3; have v3 := L.v3; have t22 := L.t22; have a22 := L.a22; have z22 := L.z22; have v22 := L.v22; have t25 := L.t25; have a25 := L.a25; have z25 := L.z25; have v25 := L.v25
  have e31 : ∀ args w, (callFunc 31 args).run P w = .ok (.enter 31 args) w := (ofF L.f31 (by kernel_rfl)).enters rfl
  clear hcmp hC hIns
  have FG := L.f27
  go_enter FG, Try.ntmps27
  go_wp2_with fail
  refine HS.out.mono ?_
  rintro e w1 ⟨rfl, h1⟩
  have H1 := Lib.hid h1
  clear h1
  go_wp2_with fail
  go_end0
  exact ⟨rfl, H1.out⟩
end
end Go.Proofs.Ytpabblkdepefcaa
