/- The document's answer on quotas: sizes, sums, which item is older, whether one is the newest of its path. No condition but that there are at most a million items. -/
import Derived.Test.YtpabblkdepefcaaQG
import Derived.Deep.QuietTactic
namespace Go.Proofs.Ytpabblkdepefcaa
open Go.RowKit Go.Shelf
theorem oldQ_tick {x y : QI} {i k : Nat} (h : x.tick ≠ y.tick) : oldQ (x, i) (y, k) = decide (x.tick < y.tick) := by
  rw [Bool.eq_iff_iff, oldQ_iff, decide_eq_true_eq]
  simp only
  omega
theorem oldQ_id {x y : QI} {i k : Nat} (h : x.tick = y.tick) (h2 : x.id ≠ y.id) : oldQ (x, i) (y, k) = decide (x.id < y.id) := by
  rw [Bool.eq_iff_iff, oldQ_iff, decide_eq_true_eq]
  simp only
  omega
theorem oldQ_ix {x y : QI} {i k : Nat} (h : x.tick = y.tick) (h2 : x.id = y.id) : oldQ (x, i) (y, k) = decide (i < k) := by
  rw [Bool.eq_iff_iff, oldQ_iff, decide_eq_true_eq]
  simp only
  omega
set_option maxRecDepth 100000 in
set_option maxHeartbeats 4000000 in
theorem rolder_any (v : Value) (l : List QI) (i k : Nat) (w : World) (h : QL w v l) (hi : i < l.length) (hk : k < l.length) : Calls Try.prog 30 #[v, .int .i64 i, .int .i64 k] w fun e w' => e = .returned (.bool (oldQ (l[i], i) (l[k], k))) ∧ ∃ q, w' = w.drewN q := by
  obtain ⟨a, cap, rfl, hc1, hc2⟩ := h.slice
  unfold maxLen at hc2
  obtain ⟨g, off, rfl, _, _, e1, e2, _⟩ := h.elem i hi
  obtain ⟨g', off', he, _, _, f1, f2, _⟩ := h.elem k hk
  cases he
  have hiz : (i : Int) < (l.length : Int) := by omega
  have hkz : (k : Int) < (l.length : Int) := by omega
  have hi0 : (0 : Int) ≤ (i : Int) := by omega
  have hk0 : (0 : Int) ≤ (k : Int) := by omega
  obtain ⟨x, hx⟩ : ∃ x, l[i] = x := ⟨_, rfl⟩
  obtain ⟨y, hy⟩ : ∃ y, l[k] = y := ⟨_, rfl⟩
  rw [hx] at e1 e2 ⊢
  rw [hy] at f1 f2 ⊢
  clear hx hy h
  go_enter Try.func30, Try.ntmps30
  by_cases ht : x.tick = y.tick
  · have q1 : ((x.tick : Int) != (y.tick : Int)) = false := by rw [ht]; simp
    have q2 : ((x.tick : Int) == (y.tick : Int)) = true := by rw [ht]; simp
    by_cases hd : x.id = y.id
    · have q3 : ((x.id : Int) != (y.id : Int)) = false := by rw [hd]; simp
      have q4 : ((x.id : Int) == (y.id : Int)) = true := by rw [hd]; simp
      have HR := Lib.hid (oldQ_ix (i := i) (k := k) ht hd)
      clear ht hd
      go_wp2_with fail
      go_quiet (fail)
      obtain ⟨n1, hn1⟩ : ∃ n1, nq = n1 := ⟨_, rfl⟩
      rw [hn1]
      clear hn1
      clear e2 f2
      have e1 : (w.drewN n1).cell? ⟨g, off + i * 4 + 1, none⟩ = _ := e1
      have f1 : (w.drewN n1).cell? ⟨g, off + k * 4 + 1, none⟩ = _ := f1
      obtain ⟨w1, hw1⟩ : ∃ w1, w.drewN n1 = w1 := ⟨_, rfl⟩
      rw [hw1] at e1 f1 ⊢
      have HW1 := Lib.hid hw1
      clear hw1
      go_wp2_with fail
      go_quiet (fail)
      go_wp2_with fail
      go_ret
      exact ⟨by rw [HR.out]; rfl, n1 + nq, by rw [← HW1.out, World.drewN_drewN]⟩
    · have q3 : ((x.id : Int) != (y.id : Int)) = true := by simp; omega
      have q4 : ((x.id : Int) == (y.id : Int)) = false := by simp; omega
      have HR := Lib.hid (oldQ_id (i := i) (k := k) ht hd)
      clear ht hd
      go_wp2_with fail
      go_quiet (fail)
      obtain ⟨n1, hn1⟩ : ∃ n1, nq = n1 := ⟨_, rfl⟩
      rw [hn1]
      clear hn1
      clear e2 f2
      have e1 : (w.drewN n1).cell? ⟨g, off + i * 4 + 1, none⟩ = _ := e1
      have f1 : (w.drewN n1).cell? ⟨g, off + k * 4 + 1, none⟩ = _ := f1
      obtain ⟨w1, hw1⟩ : ∃ w1, w.drewN n1 = w1 := ⟨_, rfl⟩
      rw [hw1] at e1 f1 ⊢
      have HW1 := Lib.hid hw1
      clear hw1
      go_wp2_with fail
      go_quiet (fail)
      obtain ⟨n2, hn2⟩ : ∃ n2, nq = n2 := ⟨_, rfl⟩
      rw [hn2]
      clear hn2
      have e1 : (w1.drewN n2).cell? ⟨g, off + i * 4 + 1, none⟩ = _ := e1
      have f1 : (w1.drewN n2).cell? ⟨g, off + k * 4 + 1, none⟩ = _ := f1
      obtain ⟨w2, hw2⟩ : ∃ w2, w1.drewN n2 = w2 := ⟨_, rfl⟩
      rw [hw2] at e1 f1 ⊢
      have HW2 := Lib.hid hw2
      clear hw2
      go_wp2_with fail
      go_quiet (fail)
      go_wp2_with fail
      go_ret
      exact ⟨by rw [HR.out]; rfl, n1 + n2 + nq, by rw [← HW2.out, ← HW1.out, World.drewN_drewN, World.drewN_drewN, Nat.add_assoc]⟩
  · have q1 : ((x.tick : Int) != (y.tick : Int)) = true := by simp; omega
    have q2 : ((x.tick : Int) == (y.tick : Int)) = false := by simp; omega
    have HR := Lib.hid (oldQ_tick (i := i) (k := k) ht)
    clear ht e1 f1
    go_wp2_with fail
    go_quiet (fail)
    obtain ⟨n1, hn1⟩ : ∃ n1, nq = n1 := ⟨_, rfl⟩
    rw [hn1]
    clear hn1
    have e2 : (w.drewN n1).cell? ⟨g, off + i * 4 + 2, none⟩ = _ := e2
    have f2 : (w.drewN n1).cell? ⟨g, off + k * 4 + 2, none⟩ = _ := f2
    obtain ⟨w1, hw1⟩ : ∃ w1, w.drewN n1 = w1 := ⟨_, rfl⟩
    rw [hw1] at e2 f2 ⊢
    have HW1 := Lib.hid hw1
    clear hw1
    go_wp2_with fail
    go_quiet (fail)
    go_wp2_with fail
    go_ret
    exact ⟨by rw [HR.out]; rfl, n1 + nq, by rw [← HW1.out, World.drewN_drewN]⟩
/-- Is the item at i the newest one of its path? -/
def newestB (l : List QI) (i : Nat) (h : i < l.length) : Bool := l.zipIdx.all fun z => !(decide (z.1.path = l[i].path) && oldQ (l[i], i) z)
theorem newestB_no {l : List QI} {i k : Nat} (h : i < l.length) (hk : k < l.length) (hp : l[k].path = l[i].path) (ho : oldQ (l[i], i) (l[k], k) = true) : newestB l i h = false := by
  unfold newestB
  rw [List.all_eq_false]
  refine ⟨(l[k], k), ?_, by simp [hp, ho]⟩
  rw [List.mk_mem_zipIdx_iff_getElem?]
  simp [hk]
theorem newestB_yes {l : List QI} {i : Nat} (h : i < l.length) (hk : ∀ k (hk : k < l.length), l[k].path = l[i].path → oldQ (l[i], i) (l[k], k) = false) : newestB l i h = true := by
  unfold newestB
  rw [List.all_eq_true]
  rintro ⟨z, k⟩ hz
  rw [List.mk_mem_zipIdx_iff_getElem?] at hz
  obtain ⟨hk1, hk2⟩ := List.getElem?_eq_some_iff.1 hz
  subst hk2
  by_cases hp : l[k].path = l[i].path
  · have := hk k hk1 hp
    simp [this]
  · simp [hp]
theorem bs_beq (a b : List UInt8) : ((bs a).toList == (bs b).toList) = decide (a = b) := by
  rw [bs_toList, bs_toList]
  rw [Bool.eq_iff_iff]; simp
set_option maxRecDepth 100000 in
set_option maxHeartbeats 4000000 in
theorem rnewest_any (v : Value) (l : List QI) (i : Nat) (w : World) (h : QL w v l) (hi : i < l.length) : Calls Try.prog 29 #[v, .int .i64 i] w fun e w' => e = .returned (.bool (newestB l i hi)) ∧ Frm (fun _ => False) w w' := by
  obtain ⟨a, cap, rfl, hc1, hc2⟩ := h.slice
  unfold maxLen at hc2
  have hiz : (i : Int) < (l.length : Int) := by omega
  have hi0 : (0 : Int) ≤ (i : Int) := by omega
  have HL := Lib.hid h
  clear h
  obtain ⟨b, hbb⟩ : ∃ b, newestB l i hi = b := ⟨_, rfl⟩
  rw [hbb]
  have HB := Lib.hid hbb
  clear hbb
  go_enter Try.func29, Try.ntmps29
  go_wp2_with fail
  go_loopw [5] (fun j wr => ∃ k : Nat, k ≤ l.length ∧ j = .int .i64 k ∧ Frm (fun _ => False) w wr ∧ Hid (∀ q (hq : q < l.length), q < k → l[q].path = l[i].path → oldQ (l[i], i) (l[q], q) = false)) (fun j _ => l.length - (intOf j).toNat)
  case atStart => exact ⟨0, Nat.zero_le _, rfl, Frm.refl _ _, fun q _ h => by omega⟩
  case round =>
    obtain ⟨k, hk, rfl, g1, HP⟩ := hrel
    have G1 := Lib.hid g1
    clear g1
    by_cases hlt : k < l.length
    · have hki : (k : Int) < (l.length : Int) := by omega
      have hk0 : (0 : Int) ≤ (k : Int) := by omega
      have hq := HL.out.keepF G1.out
      have HC := Lib.hid fun n => rolder_any (.slice a l.length cap) l i k (wr.drewN n) (hq.keepF ((Frm.refl _ wr).drewN n)) hi hlt
      obtain ⟨g, off, rfl, _, e0, _, _, _⟩ := hq.elem i hi
      obtain ⟨g', off', he, _, f0, _, _, _⟩ := hq.elem k hlt
      cases he
      have hbe := bs_beq l[k].path l[i].path
      obtain ⟨x, hx⟩ : ∃ x, l[i].path = x := ⟨_, rfl⟩
      obtain ⟨y, hy⟩ : ∃ y, l[k].path = y := ⟨_, rfl⟩
      obtain ⟨o, ho⟩ : ∃ o, oldQ (l[i], i) (l[k], k) = o := ⟨_, rfl⟩
      rw [hx] at e0 hbe
      rw [hy] at f0 hbe
      rw [ho] at HC
      have HX := Lib.hid (And.intro hx (And.intro hy ho))
      clear hx hy ho hq
      by_cases hxy : y = x
      · have hb1 : ((bs y).toList == (bs x).toList) = true := by rw [hbe]; exact decide_eq_true hxy
        have HXY := Lib.hid hxy
        clear hbe hxy
        cases o with
        | true =>
          have hbv : b = false := by rw [← HB.out]; exact newestB_no hi hlt (by rw [HX.out.1, HX.out.2.1]; exact HXY.out) HX.out.2.2
          have HBV := Lib.hid hbv
          clear hbv
          go_wp2_with fail
          go_quiet ((go_at_call 30; exact Calls.quiet_of (HC.out _)))
          go_wp2_with fail
          go_ret
          exact ⟨by rw [HBV.out]; rfl, G1.out.drewN _⟩
        | false =>
          go_wp2_with fail
          go_quiet ((go_at_call 30; exact Calls.quiet_of (HC.out _)))
          go_wp2_with fail
          go_roundw
          case rel => exact ⟨k + 1, hlt, by go_num, G1.out.drewN _, fun q hq h1 h2 => by
            rcases Nat.lt_or_ge q k with h | h
            · exact HP.out q hq h h2
            · obtain rfl : q = k := by omega
              exact HX.out.2.2⟩
          case measure => simp [intOf]; omega
      · have hb1 : ((bs y).toList == (bs x).toList) = false := by rw [hbe]; exact decide_eq_false hxy
        have HXY := Lib.hid hxy
        clear hbe hxy
        go_wp2_with fail
        go_quiet (fail)
        go_wp2_with fail
        go_roundw
        case rel => exact ⟨k + 1, hlt, by go_num, G1.out.drewN _, fun q hq h1 h2 => by
          rcases Nat.lt_or_ge q k with h | h
          · exact HP.out q hq h h2
          · obtain rfl : q = k := by omega
            exact absurd (by rw [← HX.out.1, ← HX.out.2.1]; exact h2) HXY.out⟩
        case measure => simp [intOf]; omega
    · obtain rfl : k = l.length := by omega
      have hbv : b = true := by rw [← HB.out]; exact newestB_yes hi fun q hq => HP.out q hq hq
      have HBV := Lib.hid hbv
      clear hbv
      go_wp2_with fail
      go_ret
      exact ⟨by rw [HBV.out]; rfl, G1.out⟩
end Go.Proofs.Ytpabblkdepefcaa
