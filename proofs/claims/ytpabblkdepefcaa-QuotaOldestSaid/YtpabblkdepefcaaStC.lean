/- A stable sort's merge, over any program that bears its functions: a second stretch of one element. No condition but the row's length. -/
import Derived.Test.YtpabblkdepefcaaStA
namespace Go.Proofs.Ytpabblkdepefcaa
open Go.Shelf Go.RowKit Go.Lib Go.Sort
section
variable {P : Program} {α : Type} [Inhabited α] {k : Nat}
set_option maxHeartbeats 64000000 in
set_option maxRecDepth 1000000 in
theorem symMerge_two (L : StL P k) (enc : α → List Value) (cf : α → α → Int) (lt : α → α → Bool) (og : α → α → Prop) (hS : SWO lt) (hL : ∀ x y, og x y → ltOf cf y x = lt y x) (g : Nat) (cb : Array Value) (blk off cap : Nat) (d0 : Array α) (w0 : World)
    (eg : ∀ args w, (callFunc g args).run P w = .ok (.enter g args) w) (hcmp : CmpLays P g cb enc k cf blk off d0.size w0) (R : RowK enc k w0 blk off d0) (a m b : Nat) (d : Array α) (w : World) (hs : d0.size = d.size) (S : SWK enc k w0 blk off d w) (ham : a < m) (hmb : m < b) (hb : b ≤ d.size) (hsz : d.size < 4611686018427387904) (hT : Two lt og a m b d) (c1 : ¬ m - a = 1) (c2 : b - m = 1) :
    Calls P 35 #[.slice (some ⟨blk, off, none⟩) d.size cap, .int .i64 a, .int .i64 m, .int .i64 b, .func (.func g) #[] cb] w fun e w' =>
      e = .returned (.tuple #[]) ∧ ∃ d', SortedIn lt a b d' ∧ (∀ lo hi, lo ≤ a → b ≤ hi → hi ≤ d.size → PermIn lo hi d d') ∧ SWK enc k w0 blk off d' w' := by
  have mixed := L.mixed; have t0 := L.t0; have a0 := L.a0; have z0 := L.z0; have v0 := L.v0; have t3 := L.t3; have a3 := L.a3; have z3 := L.z3; have v3 := L.v3; have t4 := L.t4; have a4 := L.a4; have z4 := L.z4; have v4 := L.v4; have t22 := L.t22; have a22 := L.a22; have z22 := L.z22; have v22 := L.v22; have t25 := L.t25; have a25 := L.a25; have z25 := L.z25; have v25 := L.v25; have t63 := L.t63; have a63 := L.a63; have z63 := L.z63; have v63 := L.v63; have aE := L.aE; have zE := L.zE
  have FG := L.f35
  have e35 : ∀ args w, (callFunc 35 args).run P w = .ok (.enter 35 args) w := (ofF L.f35 (by kernel_rfl)).enters rfl
  have e37 : ∀ args w, (callFunc 37 args).run P w = .ok (.enter 37 args) w := (ofF L.f37 (by kernel_rfl)).enters rfl
  have HC : Aside _ := hcmp
  clear hcmp
  have HT := Lib.hid hT
  have S0 : Aside (SWK enc k w0 blk off d w) := S
  clear S hT
  go_enter FG, Try.ntmps35
  have hone : ¬ (m : Int) - (a : Int) = 1 := by omega
  have honeb : ((m : Int) - (a : Int) == 1) = false := by rw [beq_eq_false_iff_ne]; exact hone
  have htwo : (b : Int) - (m : Int) = 1 := by omega
  go_wp2
  go_loopw [14, 15] (fun vi vj wr => ∃ (i j : Nat), vi = .int .i64 i ∧ vj = .int .i64 j ∧ a ≤ i ∧ i ≤ j ∧ j ≤ m ∧ Aside (SWK enc k w0 blk off d wr) ∧ Hid ((i = a ∨ lt d[m]! d[i - 1]! = false) ∧ (j = m ∨ lt d[m]! d[j]! = true))) (fun vi vj _ => (intOf vj).toNat - (intOf vi).toNat)
  case atStart => exact ⟨a, m, rfl, rfl, Nat.le_refl _, by omega, Nat.le_refl _, S0, .inl rfl, .inl rfl⟩
  case round =>
    clear S0
    obtain ⟨i, j, rfl, rfl, hai, hij, hjm, S1, HR⟩ := hrel
    by_cases hlt : i < j
    · have hltz : (i : Int) < (j : Int) := by omega
      obtain ⟨h, hh⟩ : ∃ h, (i + j) / 2 = h := ⟨_, rfl⟩
      have hz : ((i : Int) + (j : Int)) / 2 = (h : Int) := by omega
      have hih : i ≤ h := by omega
      have hhj : h < j := by omega
      have wij : IntKind.i64.wrap ((i : Int) + (j : Int)) = (i : Int) + (j : Int) := by rw [IntKind.wrap_i64]; omega
      have hog : ltOf cf d[m]! d[h]! = lt d[m]! d[h]! := hL _ _ (HT.out.og h m (by omega) (by omega) (Nat.le_refl _) hmb)
      cases hlv : ltOf cf d[m]! d[h]! with
      | true =>
        rw [hlv] at hog
        have HO := Lib.hid hog
        clear hog hh
        have ea1 : ((m : Int)).toNat = m := by omega
        have pa1 : (0 : Int) ≤ (m : Int) := by omega
        have ba1 : (m : Int) < (d.size : Int) := by omega
        have ra1 : IntKind.i64.wrap ((m : Int)) = (m : Int) := by rw [IntKind.wrap_i64]; omega
        have ea2 : ((h : Int)).toNat = h := by omega
        have pa2 : (0 : Int) ≤ (h : Int) := by omega
        have ba2 : (h : Int) < (d.size : Int) := by omega
        have ra2 : IntKind.i64.wrap ((h : Int)) = (h : Int) := by rw [IntKind.wrap_i64]; omega
        obtain ⟨x, hx⟩ : ∃ x, x = d[m]! := ⟨_, rfl⟩
        obtain ⟨y, hy⟩ : ∃ x, x = d[h]! := ⟨_, rfl⟩
        have la := S1.out.ld R (by omega) P (m) (by omega)
        have lb := S1.out.ld R (by omega) P (h) (by omega)
        rw [← hx] at la
        rw [← hy] at lb
        have hc := S1.out.cmp HC.out (by omega) x y
        have hv : cf x y < 0 := by rw [hx, hy]; exact of_decide_eq_true hlv
        have hd : decide (cf x y < 0) = true := decide_eq_true hv
        clear hx hy
        go_wp2_with fail
        go_quiet_grown (first | (go_at_fn g; refine Calls.grown_of (hc _ _)))
        have S2 : Aside (SWK enc k w0 blk off d (grow (wr.drewN nq) osq)) := S1.out.grown nq osq
        clear la lb hc S1
        generalize grow (wr.drewN nq) osq = wu at S2 ⊢
        clear nq osq
        go_wp2
        go_roundw
        case rel => exact ⟨i, h, rfl, by go_num, hai, hih, by omega, S2, HR.out.1, .inr HO.out.symm⟩
        case measure => simp [intOf]; omega
      | false =>
        rw [hlv] at hog
        have HO := Lib.hid hog
        clear hog hh
        have ea1 : ((m : Int)).toNat = m := by omega
        have pa1 : (0 : Int) ≤ (m : Int) := by omega
        have ba1 : (m : Int) < (d.size : Int) := by omega
        have ra1 : IntKind.i64.wrap ((m : Int)) = (m : Int) := by rw [IntKind.wrap_i64]; omega
        have ea2 : ((h : Int)).toNat = h := by omega
        have pa2 : (0 : Int) ≤ (h : Int) := by omega
        have ba2 : (h : Int) < (d.size : Int) := by omega
        have ra2 : IntKind.i64.wrap ((h : Int)) = (h : Int) := by rw [IntKind.wrap_i64]; omega
        obtain ⟨x, hx⟩ : ∃ x, x = d[m]! := ⟨_, rfl⟩
        obtain ⟨y, hy⟩ : ∃ x, x = d[h]! := ⟨_, rfl⟩
        have la := S1.out.ld R (by omega) P (m) (by omega)
        have lb := S1.out.ld R (by omega) P (h) (by omega)
        rw [← hx] at la
        rw [← hy] at lb
        have hc := S1.out.cmp HC.out (by omega) x y
        have hv : ¬ cf x y < 0 := by rw [hx, hy]; exact of_decide_eq_false hlv
        have hd : decide (cf x y < 0) = false := decide_eq_false hv
        clear hx hy
        go_wp2_with fail
        go_quiet_grown (first | (go_at_fn g; refine Calls.grown_of (hc _ _)))
        have S2 : Aside (SWK enc k w0 blk off d (grow (wr.drewN nq) osq)) := S1.out.grown nq osq
        clear la lb hc S1
        generalize grow (wr.drewN nq) osq = wu at S2 ⊢
        clear nq osq
        go_wp2
        go_roundw
        case rel => exact ⟨h + 1, j, by go_num, rfl, by omega, by omega, hjm, S2, .inr (by rw [Nat.add_sub_cancel]; exact HO.out.symm), HR.out.2⟩
        case measure => simp [intOf]; omega
    · obtain rfl : i = j := by omega
      go_wp2
      go_loopw [17] (fun vk wr => ∃ (q : Nat) (dk : Array α), vk = .int .i64 q ∧ i ≤ q ∧ q ≤ m ∧ dk.size = d.size ∧ Aside (SWK enc k w0 blk off dk wr) ∧ Hid (Rot q m b d dk ∧ ∀ lo hi, lo ≤ a → b ≤ hi → hi ≤ d.size → PermIn lo hi d dk)) (fun vk _ => (intOf vk).toNat)
      case atStart => exact ⟨m, d, rfl, hjm, Nat.le_refl _, rfl, S1, Rot.none1 m b d, fun _ _ _ _ _ => permIn_refl d _ _⟩
      case round =>
        clear S1
        obtain ⟨q, dk, rfl, hiq, hqm, hs', S1, HQ⟩ := hrel
        by_cases hlt2 : i < q
        · obtain ⟨qp, rfl⟩ : ∃ qp, q = qp + 1 := ⟨q - 1, by omega⟩
          have hltz : (i : Int) < (qp : Int) + 1 := by omega
          have ea1 : ((qp : Int) + 1).toNat = qp + 1 := by omega
          have pa1 : (0 : Int) ≤ (qp : Int) + 1 := by omega
          have ba1 : (qp : Int) + 1 < (d.size : Int) := by omega
          have ra1 : IntKind.i64.wrap ((qp : Int) + 1) = (qp : Int) + 1 := by rw [IntKind.wrap_i64]; omega
          have ea2 : ((qp : Int)).toNat = qp := by omega
          have pa2 : (0 : Int) ≤ (qp : Int) := by omega
          have ba2 : (qp : Int) < (d.size : Int) := by omega
          have ra2 : IntKind.i64.wrap ((qp : Int)) = (qp : Int) := by rw [IntKind.wrap_i64]; omega
          have S2 : Aside (SWK enc k w0 blk off (swp dk (qp + 1) (qp)) ((wr.drew.setCells blk (off + (qp + 1) * k) (enc dk[qp]!)).setCells blk (off + (qp) * k) (enc dk[qp + 1]!))) := S1.out.swapped R (qp + 1) (qp) (by omega) (by omega)
          have la := S1.out.ld1 R (by omega) P (qp + 1) (by omega)
          have lb := S1.out.ld1 R (by omega) P (qp) (by omega)
          have sa := S1.out.st1 R (by omega) P (qp + 1) (by omega) dk[qp]!
          have sb := S1.out.st2 R (by omega) P (qp + 1) (qp) (by omega) (by omega) dk[qp]! dk[qp + 1]!
          have na : (enc dk[qp + 1]!).length = k := R.hk _
          have nb : (enc dk[qp]!).length = k := R.hk _
          generalize enc dk[qp + 1]! = cI at S2 la sb na
          generalize enc dk[qp]! = cJ at S2 lb sa sb nb
          clear S1
          go_wp2_with fail
          go_big_region_o
          clear la lb sa sb
          generalize (wr.drew.setCells blk (off + (qp + 1) * k) cJ).setCells blk (off + (qp) * k) cI = wu at S2 ⊢
          go_wp2
          go_roundw
          case rel =>
            refine ⟨qp, swp dk (qp + 1) qp, by go_num, by omega, by omega, by rw [size_swp]; exact hs', S2, ?_, fun lo hi h1 h2 h3 => permIn_trans _ _ _ _ _ (HQ.out.2 lo hi h1 h2 h3) (swp_permIn dk lo hi _ _ (by omega) (by omega) (by omega) (by omega) (by omega))⟩
            have hr := HQ.out.1
            obtain rfl : b = m + 1 := by omega
            exact hr.down hqm (by omega)
          case measure => simp [intOf]
        · obtain rfl : i = q := by omega
          have hltz : ¬ (i : Int) < (i : Int) := by omega
          go_wp2
          (try simp only [Exit.inBlock, Exit.then]); refine bodyPost_ret (results_none rfl _ _ _) rfl ?_
          have hp := Two.parts (og := og) hS HT.out hai hjm (Nat.le_of_lt hmb) (Nat.le_refl b) rfl HQ.out.1 (.inr (.inl rfl)) (HR.out.2.elim (fun e => .inl e) (fun e => .inr (.inr (by rw [show b - 1 = m from by omega]; exact e))))
          refine ⟨rfl, dk, ?_, HQ.out.2, S1.out⟩
          refine sorted_join (sorted_join (m := i) hp.1.one (fun x y h1 h2 h3 => by omega) ?_) hp.2.1.one hp.2.2
          intro x y h1 h2 h3 h4
          obtain rfl : y = i := by omega
          have e1 : dk[y]! = d[m]! := by rw [HQ.out.1.2, if_pos (by omega)]; congr 1; omega
          have e2 : dk[x]! = d[x]! := by rw [HQ.out.1.2, if_neg (by omega), if_neg (by omega)]
          rw [e1, e2]
          rcases HR.out.1 with e | e
          · omega
          · rcases Nat.lt_or_eq_of_le (show x ≤ y - 1 by omega) with h5 | rfl
            · exact hS.ntrans _ _ _ e (HT.out.one x (y - 1) h1 h5 (by omega))
            · exact e
end
end Go.Proofs.Ytpabblkdepefcaa
