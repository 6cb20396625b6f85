/- A stable sort's merge, over any program that bears its functions: a first stretch of one element. No condition but the row's length. -/
import Derived.Test.YtpabblkdepefcaaStA
namespace Go.Proofs.Ytpabblkdepefcaa
open Go.Shelf Go.RowKit Go.Lib Go.Sort
section
variable {P : Program} {α : Type} [Inhabited α] {k : Nat}
set_option maxHeartbeats 64000000 in
set_option maxRecDepth 1000000 in
theorem symMerge_one (L : StL P k) (enc : α → List Value) (cf : α → α → Int) (lt : α → α → Bool) (og : α → α → Prop) (hS : SWO lt) (hL : ∀ x y, og x y → ltOf cf y x = lt y x) (g : Nat) (cb : Array Value) (blk off cap : Nat) (d0 : Array α) (w0 : World)
    (eg : ∀ args w, (callFunc g args).run P w = .ok (.enter g args) w) (hcmp : CmpLays P g cb enc k cf blk off d0.size w0) (R : RowK enc k w0 blk off d0) (a m b : Nat) (d : Array α) (w : World) (hs : d0.size = d.size) (S : SWK enc k w0 blk off d w) (ham : a < m) (hmb : m < b) (hb : b ≤ d.size) (hsz : d.size < 4611686018427387904) (hT : Two lt og a m b d) (c1 : m - a = 1) :
    Calls P 35 #[.slice (some ⟨blk, off, none⟩) d.size cap, .int .i64 a, .int .i64 m, .int .i64 b, .func (.func g) #[] cb] w fun e w' =>
      e = .returned (.tuple #[]) ∧ ∃ d', SortedIn lt a b d' ∧ (∀ lo hi, lo ≤ a → b ≤ hi → hi ≤ d.size → PermIn lo hi d d') ∧ SWK enc k w0 blk off d' w' := by
  have mixed := L.mixed; have t0 := L.t0; have a0 := L.a0; have z0 := L.z0; have v0 := L.v0; have t3 := L.t3; have a3 := L.a3; have z3 := L.z3; have v3 := L.v3; have t4 := L.t4; have a4 := L.a4; have z4 := L.z4; have v4 := L.v4; have t22 := L.t22; have a22 := L.a22; have z22 := L.z22; have v22 := L.v22; have t25 := L.t25; have a25 := L.a25; have z25 := L.z25; have v25 := L.v25; have t63 := L.t63; have a63 := L.a63; have z63 := L.z63; have v63 := L.v63; have aE := L.aE; have zE := L.zE
  have FG := L.f35
  have e35 : ∀ args w, (callFunc 35 args).run P w = .ok (.enter 35 args) w := (ofF L.f35 (by kernel_rfl)).enters rfl
  have e37 : ∀ args w, (callFunc 37 args).run P w = .ok (.enter 37 args) w := (ofF L.f37 (by kernel_rfl)).enters rfl
  have HC : Aside _ := hcmp
  clear hcmp
  have HT := Lib.hid hT
  have S0 : Aside (SWK enc k w0 blk off d w) := S
  clear S hT
  go_enter FG, Try.ntmps35
  have hone : (m : Int) - (a : Int) = 1 := by omega
  go_wp2
  go_loopw [10, 11] (fun vi vj wr => ∃ (i j : Nat), vi = .int .i64 i ∧ vj = .int .i64 j ∧ m ≤ i ∧ i ≤ j ∧ j ≤ b ∧ Aside (SWK enc k w0 blk off d wr) ∧ Hid ((i = m ∨ lt d[i - 1]! d[a]! = true) ∧ (j = b ∨ lt d[j]! d[a]! = false))) (fun vi vj _ => (intOf vj).toNat - (intOf vi).toNat)
  case atStart => exact ⟨m, b, rfl, rfl, Nat.le_refl _, by omega, Nat.le_refl _, S0, .inl rfl, .inl rfl⟩
  case round =>
    clear S0
    obtain ⟨i, j, rfl, rfl, hmi, hij, hjb, S1, HR⟩ := hrel
    by_cases hlt : i < j
    · have hltz : (i : Int) < (j : Int) := by omega
      obtain ⟨h, hh⟩ : ∃ h, (i + j) / 2 = h := ⟨_, rfl⟩
      have hz : ((i : Int) + (j : Int)) / 2 = (h : Int) := by omega
      have hih : i ≤ h := by omega
      have hhj : h < j := by omega
      have wij : IntKind.i64.wrap ((i : Int) + (j : Int)) = (i : Int) + (j : Int) := by rw [IntKind.wrap_i64]; omega
      have hog : ltOf cf d[h]! d[a]! = lt d[h]! d[a]! := hL _ _ (HT.out.og a h (Nat.le_refl _) ham (by omega) (by omega))
      cases hlv : ltOf cf d[h]! d[a]! with
      | true =>
        rw [hlv] at hog
        have HO := Lib.hid hog
        clear hog hh
        have ea1 : ((h : Int)).toNat = h := by omega
        have pa1 : (0 : Int) ≤ (h : Int) := by omega
        have ba1 : (h : Int) < (d.size : Int) := by omega
        have ra1 : IntKind.i64.wrap ((h : Int)) = (h : Int) := by rw [IntKind.wrap_i64]; omega
        have ea2 : ((a : Int)).toNat = a := by omega
        have pa2 : (0 : Int) ≤ (a : Int) := by omega
        have ba2 : (a : Int) < (d.size : Int) := by omega
        have ra2 : IntKind.i64.wrap ((a : Int)) = (a : Int) := by rw [IntKind.wrap_i64]; omega
        obtain ⟨x, hx⟩ : ∃ x, x = d[h]! := ⟨_, rfl⟩
        obtain ⟨y, hy⟩ : ∃ x, x = d[a]! := ⟨_, rfl⟩
        have la := S1.out.ld R (by omega) P (h) (by omega)
        have lb := S1.out.ld R (by omega) P (a) (by omega)
        rw [← hx] at la
        rw [← hy] at lb
        have hc := S1.out.cmp HC.out (by omega) x y
        have hv : cf x y < 0 := by rw [hx, hy]; exact of_decide_eq_true hlv
        have hd : decide (cf x y < 0) = true := decide_eq_true hv
        clear hx hy
        go_wp2_with fail
        go_quiet_grown (first | (go_at_fn g; refine Calls.grown_of (hc _ _)))
        have S2 : Aside (SWK enc k w0 blk off d (grow (wr.drewN nq) osq)) := S1.out.grown nq osq
        clear la lb hc S1
        generalize grow (wr.drewN nq) osq = wu at S2 ⊢
        clear nq osq
        go_wp2
        go_roundw
        case rel => exact ⟨h + 1, j, by go_num, rfl, by omega, by omega, hjb, S2, .inr (by rw [Nat.add_sub_cancel]; exact HO.out.symm), HR.out.2⟩
        case measure => simp [intOf]; omega
      | false =>
        rw [hlv] at hog
        have HO := Lib.hid hog
        clear hog hh
        have ea1 : ((h : Int)).toNat = h := by omega
        have pa1 : (0 : Int) ≤ (h : Int) := by omega
        have ba1 : (h : Int) < (d.size : Int) := by omega
        have ra1 : IntKind.i64.wrap ((h : Int)) = (h : Int) := by rw [IntKind.wrap_i64]; omega
        have ea2 : ((a : Int)).toNat = a := by omega
        have pa2 : (0 : Int) ≤ (a : Int) := by omega
        have ba2 : (a : Int) < (d.size : Int) := by omega
        have ra2 : IntKind.i64.wrap ((a : Int)) = (a : Int) := by rw [IntKind.wrap_i64]; omega
        obtain ⟨x, hx⟩ : ∃ x, x = d[h]! := ⟨_, rfl⟩
        obtain ⟨y, hy⟩ : ∃ x, x = d[a]! := ⟨_, rfl⟩
        have la := S1.out.ld R (by omega) P (h) (by omega)
        have lb := S1.out.ld R (by omega) P (a) (by omega)
        rw [← hx] at la
        rw [← hy] at lb
        have hc := S1.out.cmp HC.out (by omega) x y
        have hv : ¬ cf x y < 0 := by rw [hx, hy]; exact of_decide_eq_false hlv
        have hd : decide (cf x y < 0) = false := decide_eq_false hv
        clear hx hy
        go_wp2_with fail
        go_quiet_grown (first | (go_at_fn g; refine Calls.grown_of (hc _ _)))
        have S2 : Aside (SWK enc k w0 blk off d (grow (wr.drewN nq) osq)) := S1.out.grown nq osq
        clear la lb hc S1
        generalize grow (wr.drewN nq) osq = wu at S2 ⊢
        clear nq osq
        go_wp2
        go_roundw
        case rel => exact ⟨i, h, rfl, by go_num, hmi, hih, by omega, S2, HR.out.1, .inr HO.out.symm⟩
        case measure => simp [intOf]; omega
    · obtain rfl : i = j := by omega
      go_wp2
      go_loopw [13] (fun vk wr => ∃ (q : Nat) (dk : Array α), vk = .int .i64 q ∧ a ≤ q ∧ q + 1 ≤ i ∧ dk.size = d.size ∧ Aside (SWK enc k w0 blk off dk wr) ∧ Hid (Rot a m (q + 1) d dk ∧ ∀ lo hi, lo ≤ a → b ≤ hi → hi ≤ d.size → PermIn lo hi d dk)) (fun vk _ => i - (intOf vk).toNat)
      case atStart =>
        refine ⟨a, d, rfl, Nat.le_refl _, by omega, rfl, S1, ?_, fun _ _ _ _ _ => permIn_refl d _ _⟩
        obtain rfl : m = a + 1 := by omega
        exact Rot.none2 a (a + 1) d
      case round =>
        clear S1
        obtain ⟨q, dk, rfl, haq, hqi, hs', S1, HQ⟩ := hrel
        by_cases hlt2 : q + 1 < i
        · have hltz : (q : Int) < (i : Int) - 1 := by omega
          have ea1 : ((q : Int)).toNat = q := by omega
          have pa1 : (0 : Int) ≤ (q : Int) := by omega
          have ba1 : (q : Int) < (d.size : Int) := by omega
          have ra1 : IntKind.i64.wrap ((q : Int)) = (q : Int) := by rw [IntKind.wrap_i64]; omega
          have ea2 : ((q : Int) + 1).toNat = q + 1 := by omega
          have pa2 : (0 : Int) ≤ (q : Int) + 1 := by omega
          have ba2 : (q : Int) + 1 < (d.size : Int) := by omega
          have ra2 : IntKind.i64.wrap ((q : Int) + 1) = (q : Int) + 1 := by rw [IntKind.wrap_i64]; omega
          have S2 : Aside (SWK enc k w0 blk off (swp dk (q) (q + 1)) ((wr.drew.setCells blk (off + (q) * k) (enc dk[q + 1]!)).setCells blk (off + (q + 1) * k) (enc dk[q]!))) := S1.out.swapped R (q) (q + 1) (by omega) (by omega)
          have la := S1.out.ld1 R (by omega) P (q) (by omega)
          have lb := S1.out.ld1 R (by omega) P (q + 1) (by omega)
          have sa := S1.out.st1 R (by omega) P (q) (by omega) dk[q + 1]!
          have sb := S1.out.st2 R (by omega) P (q) (q + 1) (by omega) (by omega) dk[q + 1]! dk[q]!
          have na : (enc dk[q]!).length = k := R.hk _
          have nb : (enc dk[q + 1]!).length = k := R.hk _
          generalize enc dk[q]! = cI at S2 la sb na
          generalize enc dk[q + 1]! = cJ at S2 lb sa sb nb
          clear S1
          go_wp2_with fail
          go_big_region_o
          clear la lb sa sb
          generalize (wr.drew.setCells blk (off + (q) * k) cJ).setCells blk (off + (q + 1) * k) cI = wu at S2 ⊢
          go_wp2
          go_roundw
          case rel =>
            refine ⟨q + 1, swp dk q (q + 1), by go_num, by omega, by omega, by rw [size_swp]; exact hs', S2, ?_, fun lo hi h1 h2 h3 => permIn_trans _ _ _ _ _ (HQ.out.2 lo hi h1 h2 h3) (swp_permIn dk lo hi _ _ (by omega) (by omega) (by omega) (by omega) (by omega))⟩
            have hr := HQ.out.1
            obtain rfl : m = a + 1 := by omega
            exact hr.up haq (by omega)
          case measure => simp [intOf]; omega
        · have hltz : ¬ (q : Int) < (i : Int) - 1 := by omega
          go_wp2
          (try simp only [Exit.inBlock, Exit.then]); refine bodyPost_ret (results_none rfl _ _ _) rfl ?_
          obtain rfl : i = q + 1 := by omega
          have hp := Two.parts (og := og) hS HT.out (Nat.le_refl a) (Nat.le_of_lt ham) hmi hjb rfl HQ.out.1 (.inl rfl) (HR.out.1.elim (fun e => .inr (.inl e)) (fun e => .inr (.inr e)))
          refine ⟨rfl, dk, ?_, HQ.out.2, S1.out⟩
          refine sorted_join hp.1.two (sorted_join (m := q + 1) (fun x y h1 h2 h3 => by omega) hp.2.1.two ?_) hp.2.2
          intro x y h1 h2 h3 h4
          obtain rfl : x = q := by omega
          have e1 : dk[x]! = d[a]! := by rw [HQ.out.1.2, if_neg (by omega), if_pos (by omega)]; congr 1; omega
          have e2 : ∀ y, x + 1 ≤ y → dk[y]! = d[y]! := fun y hy => by rw [HQ.out.1.2, if_neg (by omega), if_neg (by omega)]
          rw [e1, e2 y h3]
          rcases HR.out.2 with e | e
          · omega
          · rcases Nat.lt_or_eq_of_le h3 with h5 | rfl
            · exact hS.ntrans _ _ _ (HT.out.two (x + 1) y (by omega) h5 h4) e
            · exact e
end
end Go.Proofs.Ytpabblkdepefcaa
