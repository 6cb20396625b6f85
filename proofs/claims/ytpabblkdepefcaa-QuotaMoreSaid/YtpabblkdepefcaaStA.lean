/- A stable sort's walks, over any program that bears its functions, at elements of k cells: what changes the places of two stretches; what rotates. No condition but the row's length. -/
import Derived.Test.YtpabblkdepefcaaStM
import Derived.Test.YtpabblkdepefcaaRows
import Derived.Shelf.SlSortCmp.KitK
import Derived.Sort.WalkC4
import Derived.Sort.WalkB2
import Derived.Sort.WalkB12
import Derived.Deep.LoopGhost
import Derived.Lib.Hide
namespace Go.Proofs.Ytpabblkdepefcaa
open Go.Shelf Go.RowKit Go.Lib Go.Sort
/-- A program that bears the stable sort, at elements of k cells. -/
structure StL (P : Program) (k : Nat) : Prop where
  mixed : P.follows .mixedOrders = true
  f38 : P.funcs[38]? = some Try.f38
  f37 : P.funcs[37]? = some Try.f37
  f35 : P.funcs[35]? = some Try.f35
  f31 : P.funcs[31]? = some Try.f31
  f27 : P.funcs[27]? = some Try.f27
  e34 : ∀ args w, (callFunc 34 args).run P w = .ok (.enter 34 args) w
  t0 : P.underlying 0 = some (TypeDesc.tuple #[])
  a0 : ∀ w, (isAgg 0).run P w = .ok false w
  z0 : ∀ w, (Go.sizeOf 0).run P w = .ok 1 w
  v0 : ∀ w, (zeroValue 0).run P w = .ok (Value.tuple #[]) w
  t3 : P.underlying 3 = some (TypeDesc.int IntKind.i64)
  a3 : ∀ w, (isAgg 3).run P w = .ok false w
  z3 : ∀ w, (Go.sizeOf 3).run P w = .ok 1 w
  v3 : ∀ w, (zeroValue 3).run P w = .ok (Value.int IntKind.i64 0) w
  t4 : P.underlying 4 = some (TypeDesc.bool)
  a4 : ∀ w, (isAgg 4).run P w = .ok false w
  z4 : ∀ w, (Go.sizeOf 4).run P w = .ok 1 w
  v4 : ∀ w, (zeroValue 4).run P w = .ok (Value.bool false) w
  t22 : P.underlying 22 = some (TypeDesc.slice 36)
  a22 : ∀ w, (isAgg 22).run P w = .ok false w
  z22 : ∀ w, (Go.sizeOf 22).run P w = .ok 1 w
  v22 : ∀ w, (zeroValue 22).run P w = .ok (Value.slice none 0 0) w
  t25 : P.underlying 52 = some (TypeDesc.func #[36, 36] #[3] false)
  a25 : ∀ w, (isAgg 52).run P w = .ok false w
  z25 : ∀ w, (Go.sizeOf 52).run P w = .ok 1 w
  v25 : ∀ w, (zeroValue 52).run P w = .ok (Value.nilFunc) w
  t63 : P.underlying 63 = some (TypeDesc.int IntKind.u64)
  a63 : ∀ w, (isAgg 63).run P w = .ok false w
  z63 : ∀ w, (Go.sizeOf 63).run P w = .ok 1 w
  v63 : ∀ w, (zeroValue 63).run P w = .ok (Value.int IntKind.u64 0) w
  aE : ∀ w, (isAgg 36).run P w = .ok true w
  zE : ∀ w, (Go.sizeOf 36).run P w = .ok k w
theorem ofF {P : Program} {f : FuncId} {B : Func} (h : P.funcs[f]? = some B) (hn : (B.name == "runtime.NumGoroutine") = false) : Bears P f B := ⟨B.name, hn, by rw [h]⟩
section
variable {P : Program} {α : Type} [Inhabited α] {k : Nat}
set_option maxHeartbeats 8000000 in
set_option maxRecDepth 1000000 in
theorem swapRange_any (L : StL P k) (enc : α → List Value) (blk off cap a b n : Nat) (cv : Value) (d0 d : Array α) (w0 w : World) (R : RowK enc k w0 blk off d0) (hs : d0.size = d.size) (S : SWK enc k w0 blk off d w) (hab : a + n ≤ b) (hb : b + n ≤ d.size) (hsz : d.size < 4611686018427387904) :
    Calls P 38 #[.slice (some ⟨blk, off, none⟩) d.size cap, .int .i64 a, .int .i64 b, .int .i64 n, cv] w fun e w' =>
      e = .returned (.tuple #[]) ∧ ∃ d', SwR a b n d d' ∧ (∀ lo hi, lo ≤ a → b + n ≤ hi → hi ≤ d.size → PermIn lo hi d d') ∧ SWK enc k w0 blk off d' w' := by
  have mixed := L.mixed; have t0 := L.t0; have a0 := L.a0; have z0 := L.z0; have v0 := L.v0; have t3 := L.t3; have a3 := L.a3; have z3 := L.z3; have v3 := L.v3; have t4 := L.t4; have a4 := L.a4; have z4 := L.z4; have v4 := L.v4; have t22 := L.t22; have a22 := L.a22; have z22 := L.z22; have v22 := L.v22; have t25 := L.t25; have a25 := L.a25; have z25 := L.z25; have v25 := L.v25; have aE := L.aE; have zE := L.zE
  have FG := L.f38
  have S0 : Aside (SWK enc k w0 blk off d w) := S
  clear S
  go_enter FG, Try.ntmps38
  go_wp2
  go_loopw [10] (fun vi wr => ∃ (i : Nat) (dk : Array α), vi = .int .i64 i ∧ i ≤ n ∧ dk.size = d.size ∧ Aside (SWK enc k w0 blk off dk wr) ∧ Hid (SwR a b i d dk ∧ ∀ lo hi, lo ≤ a → b + n ≤ hi → hi ≤ d.size → PermIn lo hi d dk)) (fun vi _ => n - (intOf vi).toNat)
  case atStart => exact ⟨0, d, rfl, Nat.zero_le _, rfl, S0, SwR.zero a b d, fun _ _ _ _ _ => permIn_refl d _ _⟩
  case round =>
    clear S0
    obtain ⟨i, dk, rfl, hin, hs', S1, HR⟩ := hrel
    by_cases hlt : i < n
    · have hltz : (i : Int) < (n : Int) := by omega
      have ea : ((a : Int) + (i : Int)).toNat = a + i := by omega
      have pa : (0 : Int) ≤ (a : Int) + (i : Int) := by omega
      have ba : (a : Int) + (i : Int) < (d.size : Int) := by omega
      have ra : IntKind.i64.wrap ((a : Int) + (i : Int)) = (a : Int) + (i : Int) := by rw [IntKind.wrap_i64]; omega
      have ec : ((b : Int) + (i : Int)).toNat = b + i := by omega
      have pc : (0 : Int) ≤ (b : Int) + (i : Int) := by omega
      have bc : (b : Int) + (i : Int) < (d.size : Int) := by omega
      have rc : IntKind.i64.wrap ((b : Int) + (i : Int)) = (b : Int) + (i : Int) := by rw [IntKind.wrap_i64]; omega
      have S2 : Aside (SWK enc k w0 blk off (swp dk (a + i) (b + i)) ((wr.drew.setCells blk (off + (a + i) * k) (enc dk[b + i]!)).setCells blk (off + (b + i) * k) (enc dk[a + i]!))) := S1.out.swapped R (a + i) (b + i) (by omega) (by omega)
      have la := S1.out.ld1 R (by omega) P (a + i) (by omega)
      have lb := S1.out.ld1 R (by omega) P (b + i) (by omega)
      have sa := S1.out.st1 R (by omega) P (a + i) (by omega) dk[b + i]!
      have sb := S1.out.st2 R (by omega) P (a + i) (b + i) (by omega) (by omega) dk[b + i]! dk[a + i]!
      have na : (enc dk[a + i]!).length = k := R.hk _
      have nb : (enc dk[b + i]!).length = k := R.hk _
      generalize enc dk[a + i]! = cI at S2 la sb na
      generalize enc dk[b + i]! = cJ at S2 lb sa sb nb
      clear S1
      go_wp2_with fail
      go_big_region_o
      clear la lb sa sb
      generalize (wr.drew.setCells blk (off + (a + i) * k) cJ).setCells blk (off + (b + i) * k) cI = w1 at S2 ⊢
      go_wp2
      go_roundw
      case rel => exact ⟨i + 1, swp dk (a + i) (b + i), by go_num, hlt, by rw [size_swp]; exact hs', S2, HR.out.1.step (by omega) (by omega), fun lo hi h1 h2 h3 => permIn_trans _ _ _ _ _ (HR.out.2 lo hi h1 h2 h3) (swp_permIn dk lo hi _ _ (by omega) (by omega) (by omega) (by omega) (by omega))⟩
      case measure => simp [intOf]; omega
    · obtain rfl : i = n := by omega
      go_wp2
      go_end0
      exact ⟨rfl, dk, HR.out.1, HR.out.2, S1.out⟩
set_option maxHeartbeats 8000000 in
set_option maxRecDepth 1000000 in
theorem rotate_any (L : StL P k) (enc : α → List Value) (blk off cap a m b : Nat) (cv : Value) (d0 d : Array α) (w0 w : World) (R : RowK enc k w0 blk off d0) (hs : d0.size = d.size) (S : SWK enc k w0 blk off d w) (ham : a < m) (hmb : m < b) (hb : b ≤ d.size) (hsz : d.size < 4611686018427387904) :
    Calls P 37 #[.slice (some ⟨blk, off, none⟩) d.size cap, .int .i64 a, .int .i64 m, .int .i64 b, cv] w fun e w' =>
      e = .returned (.tuple #[]) ∧ ∃ d', Rot a m b d d' ∧ (∀ lo hi, lo ≤ a → b ≤ hi → hi ≤ d.size → PermIn lo hi d d') ∧ SWK enc k w0 blk off d' w' := by
  have mixed := L.mixed; have t0 := L.t0; have a0 := L.a0; have z0 := L.z0; have v0 := L.v0; have t3 := L.t3; have a3 := L.a3; have z3 := L.z3; have v3 := L.v3; have t4 := L.t4; have a4 := L.a4; have z4 := L.z4; have v4 := L.v4; have t22 := L.t22; have a22 := L.a22; have z22 := L.z22; have v22 := L.v22; have t25 := L.t25; have a25 := L.a25; have z25 := L.z25; have v25 := L.v25; have aE := L.aE; have zE := L.zE
  have FG := L.f37
  have e38 : ∀ args w, (callFunc 38 args).run P w = .ok (.enter 38 args) w := (ofF L.f38 (by kernel_rfl)).enters rfl
  have HS := Lib.hid fun (x y n : Nat) (dx : Array α) (wx : World) => swapRange_any L enc blk off cap x y n cv d0 dx w0 wx R
  have S0 : Aside (SWK enc k w0 blk off d w) := S
  clear S
  go_enter FG, Try.ntmps37
  go_wp2
  go_loopw [10, 11] (fun vi vj wr => ∃ (i j : Nat) (dk : Array α), vi = .int .i64 i ∧ vj = .int .i64 j ∧ 0 < i ∧ 0 < j ∧ i ≤ m - a ∧ j ≤ b - m ∧ dk.size = d.size ∧ Aside (SWK enc k w0 blk off dk wr) ∧ Hid ((∀ r, Rot (m - i) m (m + j) dk r → Rot a m b d r) ∧ ∀ lo hi, lo ≤ a → b ≤ hi → hi ≤ d.size → PermIn lo hi d dk)) (fun vi vj _ => (intOf vi).toNat + (intOf vj).toNat)
  case atStart =>
    refine ⟨m - a, b - m, d, by go_num, by go_num, by omega, by omega, Nat.le_refl _, Nat.le_refl _, rfl, S0, fun r hr => ?_, fun _ _ _ _ _ => permIn_refl d _ _⟩
    rw [show m - (m - a) = a from by omega, show m + (b - m) = b from by omega] at hr
    exact hr
  case round =>
    clear S0
    obtain ⟨i, j, dk, rfl, rfl, hi0, hj0, hi, hj, hs', S1, HR⟩ := hrel
    have rA : ((m : Int) - (i : Int)) = ((m - i : Nat) : Int) := by omega
    rcases Nat.lt_trichotomy i j with h | h | h
    · have h1 : ¬ (i : Int) = (j : Int) := by omega
      have h2 : ¬ (j : Int) < (i : Int) := by omega
      have rB : ((m : Int) + (j : Int) - (i : Int)) = ((m + j - i : Nat) : Int) := by omega
      have rB' : IntKind.i64.wrap ((m : Int) + (j : Int)) = (m : Int) + (j : Int) := by rw [IntKind.wrap_i64]; omega
      have hc := HS.out (m - i) (m + j - i) i dk wr (by omega) S1.out (by omega) (by omega) (by omega)
      rw [hs'] at hc
      have HC := Lib.hid hc
      clear hc S1
      go_wp2_with fail
      refine HC.out.mono ?_
      rintro e w1 ⟨rfl, d1, g1, g2, g3⟩
      go_wp2_with fail
      have S3 : Aside (SWK enc k w0 blk off d1 w1) := g3
      have G : Hid _ := And.intro g1 g2
      clear g1 g2 g3
      go_roundw
      case rel =>
        refine ⟨i, j - i, d1, rfl, by go_num, hi0, by omega, hi, by omega, by rw [G.out.1.1]; exact hs', S3, fun r hr => HR.out.1 r (Rot.right G.out.1 h (by omega) hr), fun lo hi' h1 h2 h3 => permIn_trans _ _ _ _ _ (HR.out.2 lo hi' h1 h2 h3) (G.out.2 lo hi' (by omega) (by omega) h3)⟩
      case measure => simp [intOf]; omega
    · subst h
      have hc := HS.out (m - i) m i dk wr (by omega) S1.out (by omega) (by omega) (by omega)
      rw [hs'] at hc
      have HC := Lib.hid hc
      clear hc S1
      go_wp2_with fail
      refine HC.out.mono ?_
      rintro e w1 ⟨rfl, d1, g1, g2, g3⟩
      go_wp2_with fail
      go_end0
      exact ⟨rfl, d1, HR.out.1 d1 (Rot.even g1 (by omega)), fun lo hi' h1 h2 h3 => permIn_trans _ _ _ _ _ (HR.out.2 lo hi' h1 h2 h3) (g2 lo hi' (by omega) (by omega) h3), g3⟩
    · have h1 : ¬ (i : Int) = (j : Int) := by omega
      have h2 : (j : Int) < (i : Int) := by omega
      have hc := HS.out (m - i) m j dk wr (by omega) S1.out (by omega) (by omega) (by omega)
      rw [hs'] at hc
      have HC := Lib.hid hc
      clear hc S1
      go_wp2_with fail
      refine HC.out.mono ?_
      rintro e w1 ⟨rfl, d1, g1, g2, g3⟩
      go_wp2_with fail
      have S3 : Aside (SWK enc k w0 blk off d1 w1) := g3
      have G : Hid _ := And.intro g1 g2
      clear g1 g2 g3
      go_roundw
      case rel =>
        refine ⟨i - j, j, d1, by go_num, rfl, by omega, hj0, by omega, hj, by rw [G.out.1.1]; exact hs', S3, fun r hr => HR.out.1 r (Rot.left G.out.1 h (by omega) hr), fun lo hi' h1 h2 h3 => permIn_trans _ _ _ _ _ (HR.out.2 lo hi' h1 h2 h3) (G.out.2 lo hi' (by omega) (by omega) h3)⟩
      case measure => simp [intOf]; omega
end
end Go.Proofs.Ytpabblkdepefcaa
