/- The document's answer on quotas: what goes. No condition but that there are at most a hundred items. -/
import Derived.Test.YtpabblkdepefcaaQI
namespace Go.Proofs.Ytpabblkdepefcaa
open Go.RowKit Go.Shelf
set_option maxHeartbeats 1000000 in
theorem rsize_any (x : QI) (w : World) : Calls Try.prog 24 #[.int .i64 x.size] w fun e w' => e = .returned (.int .i64 (szQ x : Int)) ∧ Frm (fun _ => False) w w' := by
  obtain ⟨n, hnn⟩ : ∃ n, szQ x = n := ⟨_, rfl⟩
  have hs := hnn
  unfold szQ at hs
  rw [hnn]
  clear hnn
  go_enter Try.func24, Try.ntmps24
  by_cases h1 : x.size < 0
  · rw [if_pos h1] at hs
    have HS := Lib.hid hs
    clear hs
    go_wp2_with fail
    go_ret
    exact ⟨by rw [← HS.out]; rfl, Frm.refl _ _⟩
  · rw [if_neg h1] at hs
    by_cases h2 : 65536 < x.size
    · rw [if_pos h2] at hs
      have HS := Lib.hid hs
      clear hs
      go_wp2_with fail
      go_ret
      exact ⟨by rw [← HS.out]; rfl, Frm.refl _ _⟩
    · rw [if_neg h2] at hs
      have hz : x.size = (n : Int) := by omega
      have HZ := Lib.hid hz
      clear hs hz
      go_wp2_with fail
      go_ret
      exact ⟨by rw [HZ.out]; rfl, Frm.refl _ _⟩
set_option maxRecDepth 100000 in
set_option maxHeartbeats 2000000 in
theorem rsum_any (v : Value) (l : List QI) (w : World) (h : QL w v l) (hb : l.length ≤ 1000000) : Calls Try.prog 14 #[v] w fun e w' => e = .returned (.int .i64 (sumQ l : Int)) ∧ Frm (fun _ => False) w w' := by
  obtain ⟨a, cap, rfl, hc1, hc2⟩ := h.slice
  unfold maxLen at hc2
  have HL := Lib.hid h
  clear h
  go_enter Try.func14, Try.ntmps14
  go_wp2_with fail
  go_loopw [3, 4] (fun s i wr => ∃ k : Nat, k ≤ l.length ∧ i = .int .i64 k ∧ s = .int .i64 (sumQ (l.take k) : Int) ∧ Frm (fun _ => False) w wr) (fun _ i _ => l.length - (intOf i).toNat)
  case atStart => exact ⟨0, Nat.zero_le _, rfl, by rw [List.take_zero]; rfl, Frm.refl _ _⟩
  case round =>
    obtain ⟨k, hk, rfl, rfl, g1⟩ := hrel
    by_cases hlt : k < l.length
    · have hki : (k : Int) < (l.length : Int) := by omega
      have hk0 : (0 : Int) ≤ (k : Int) := by omega
      obtain ⟨g, off, rfl, _, _, _, _, e3⟩ := (HL.out.keepF g1).elem k hlt
      have hs : sumQ (l.take (k + 1)) = sumQ (l.take k) + szQ l[k] := by
        rw [List.take_succ_eq_append_getElem hlt, sumQ_append]; simp [sumQ]
      have hsl := sumQ_le (l.take k)
      rw [List.length_take, Nat.min_eq_left hk] at hsl
      obtain ⟨x, hx⟩ : ∃ x, l[k] = x := ⟨_, rfl⟩
      rw [hx] at e3 hs
      have hxl := szQ_le x
      obtain ⟨q, hq⟩ : ∃ q, sumQ (l.take k) = q := ⟨_, rfl⟩
      rw [hq] at hs hsl ⊢
      have HS := Lib.hid hs
      clear hx hq hs
      have G := Lib.hid g1
      have HC := Lib.hid (rsize_any x wr)
      clear g1
      go_wp2_with fail
      refine HC.out.mono ?_
      rintro e w2 ⟨rfl, g2⟩
      have G2 := Lib.hid (G.out.trans g2)
      clear g2 e3
      go_wp2_with fail
      go_roundw
      case rel => exact ⟨k + 1, hlt, by go_num, by rw [HS.out]; go_num, G2.out⟩
      case measure => simp [intOf]; omega
    · obtain rfl : k = l.length := by omega
      rw [List.take_length]
      go_wp2_with fail
      go_ret
      exact ⟨rfl, g1⟩
theorem infoRQ : (Try.prog.info? 48).map (fun i => (i.zero, i.size, i.bytes)) = some (some (.agg #[.string ⟨#[]⟩, .int .u32 0, .int .u32 0, .int .i64 0]), 4, 32) := by kernel_rfl
theorem append_rqis (w : World) (v x : Value) (l m : List QI) (h : QOwn w v l) (hs : QL w x m) (hb : l.length + m.length ≤ 1000000) :
    ∃ v' w', (Builtin.append_ #[29, 29] 29 #[v, x]).run Try.prog w = .ok v' w' ∧ QOwn w' v' (l ++ m) ∧ w.grownBy w' v.ownBlock ∧ (∀ g, v'.ownBlock = some g → v.ownBlock = some g ∨ w.heap.size ≤ g) := by
  obtain ⟨i0, hi, hz0, hz1, hz2⟩ := qinfo_parts infoRQ
  obtain ⟨v', w', h1, h2, h3, h4⟩ := run_append_row w 29 29 29 48 i0 (.agg #[.string ⟨#[]⟩, .int .u32 0, .int .u32 0, .int .i64 0]) 4 32 Try.underlying29 hi hz0 hz1 hz2 rfl h x m.length (flat qic m)
    (Sl.src hs Try.underlying29 (flat_one qic qic_one m)) (by unfold maxLen; omega) (by omega)
  exact ⟨v', w', h1, by unfold QOwn; rw [List.length_append, flat_append]; exact h2, h3, h4⟩
theorem QL.one (w : World) (t : TypeId) (x : QI) : QL (w.alloc (.cells (qiv x) t)) (.slice (some ⟨w.heap.size, 0, none⟩) 1 1) [x] := QL.lit w t [x] (qiv x) 1 rfl (by omega) (by omega) rfl
theorem QOwn.keep {X : Nat → Prop} {w w' : World} {v : Value} {l : List QI} (h : QOwn w v l) (hf : Frm X w w') (hn : ∀ g, v.ownBlock = some g → ¬ X g) : QOwn w' v l := Row.keep h hf hn
theorem QL.takeQ {w : World} {a : Option Addr} {n cap : Nat} {l : List QI} (h : QL w (.slice a n cap) l) (hn : l.length = n) (k : Nat) (hk : k ≤ n) : QL w (.slice a k cap) (l.take k) := by
  obtain ⟨a', c', e, h1, h2⟩ := h.slice
  cases e
  have := Sl.take (n := l.length) h k cap (by omega) (by omega) (Nat.le_refl _)
  unfold QL
  rw [List.length_take, Nat.min_eq_left (by omega), ← flat_take qic qic_len]
  exact this
theorem QL.dropQ {w : World} {a : Option Addr} {n cap : Nat} {l : List QI} (h : QL w (.slice a n cap) l) (hn : l.length = n) (k : Nat) (hk : k ≤ n) : QL w (.slice (if cap = k then a else a.map (·.add (k * 4))) (n - k) (cap - k)) (l.drop k) := by
  subst hn
  have := Sl.drop (n := l.length) h k hk
  unfold QL
  rw [List.length_drop, ← flat_drop qic qic_len]
  exact this
set_option maxRecDepth 100000 in
set_option maxHeartbeats 4000000 in
theorem their_any (v : Value) (l : List QI) (w : World) (h : QL w v l) (hb : l.length ≤ 1000) : Calls Try.prog 11 #[v] w fun e w' => ∃ u, e = .returned u ∧ QOwn w' u l ∧ Frm (fun _ => False) w w' ∧ ∀ g, u.ownBlock = some g → w.heap.size ≤ g := by
  obtain ⟨a, cap, rfl, hc1, hc2⟩ := h.slice
  unfold maxLen at hc2
  have HL := Lib.hid h
  clear h
  go_enter Try.func11, Try.ntmps11
  go_wp2_with fail
  go_loopw [3, 4] (fun u i wr => ∃ k : Nat, k ≤ l.length ∧ i = .int .i64 k ∧ QOwn wr u (l.take k) ∧ Frm (fun _ => False) w wr ∧ ∀ g, u.ownBlock = some g → w.heap.size ≤ g) (fun _ i _ => l.length - (intOf i).toNat)
  case atStart => exact ⟨0, Nat.zero_le _, rfl, by rw [List.take_zero]; exact Row.nil_ _ _, Frm.refl _ _, fun g h => by cases h⟩
  case round =>
    obtain ⟨k, hk, rfl, ho, g1, hn⟩ := hrel
    by_cases hlt : k < l.length
    · have hki : (k : Int) < (l.length : Int) := by omega
      have hk0 : (0 : Int) ≤ (k : Int) := by omega
      obtain ⟨g, off, rfl, _, e0, e1, e2, e3⟩ := (HL.out.keepF g1).elem k hlt
      have htk : l.take (k + 1) = l.take k ++ [l[k]] := List.take_succ_eq_append_getElem hlt
      obtain ⟨x, hx⟩ : ∃ x, l[k] = x := ⟨_, rfl⟩
      rw [hx] at e0 e1 e2 e3 htk
      obtain ⟨T, hT⟩ : ∃ T, l.take k = T := ⟨_, rfl⟩
      have hTl : T.length = k := by rw [← hT, List.length_take]; omega
      rw [hT] at ho htk
      have ga := (Frm.refl (fun _ => False) wr).alloc (.cells (qiv x) 48)
      obtain ⟨u', w', hrun, hown, hgr, hnew⟩ := append_rqis _ _ _ _ [x] (ho.keep ga (fun _ _ h => h)) (QL.one wr 48 x) (by rw [hTl]; simp; omega)
      rw [← htk] at hown
      have HR := Lib.hid hrun
      have HH := Lib.hid (And.intro hown (And.intro ((g1.trans ga).grown hgr (fun q hq e => by have := hn q e; omega)) (fun g e => (hnew g e).elim (fun e => hn g e) (fun e => by have := ga.size; have := g1.size; omega))))
      clear hx hT htk hrun hown hgr hnew ho g1 hn ga
      go_wp2_with (at_builtin; refine Lib.wpList_append_run _ rfl _ _ _ _ rfl _ _ rfl rfl _ _ HR.out ?_)
      go_roundw
      case rel => exact ⟨k + 1, hlt, by go_num, HH.out.1, HH.out.2.1, HH.out.2.2⟩
      case measure => simp [intOf]; omega
    · obtain rfl : k = l.length := by omega
      rw [List.take_length] at ho
      have HH := Lib.hid (And.intro ho (And.intro g1 hn))
      clear ho g1 hn
      go_wp2_with fail
      go_ret
      exact ⟨_, rfl, HH.out⟩
end Go.Proofs.Ytpabblkdepefcaa
