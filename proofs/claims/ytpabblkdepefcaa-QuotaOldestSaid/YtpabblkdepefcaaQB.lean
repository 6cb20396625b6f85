/- What a size counts as; the sum of sizes. No condition but that there are at most a million items. -/
import Derived.Test.YtpabblkdepefcaaQA
import Derived.OwnWalk
import Derived.Lib.AppendZeros
import Derived.WideLaws
namespace Go.Proofs.Ytpabblkdepefcaa
open Go.RowKit Go.Shelf
theorem QL.keepF {w w' : World} {v : Value} {l : List QI} (h : QL w v l) (hf : Frm (fun _ => False) w w') : QL w' v l := Sl.keepF h hf
theorem QL.slice {w : World} {v : Value} {l : List QI} (h : QL w v l) : ∃ a cap, v = .slice a l.length cap ∧ l.length ≤ cap ∧ cap ≤ maxLen := Sl.slice h
theorem QL.elem {w : World} {a : Option Addr} {cap : Nat} {l : List QI} (h : QL w (.slice a l.length cap) l) (k : Nat) (hk : k < l.length) : ∃ g off, a = some ⟨g, off, none⟩ ∧ g < w.heap.size ∧ w.cell? ⟨g, off + k * 4, none⟩ = some (.string (bs l[k].path)) ∧ w.cell? ⟨g, off + k * 4 + 1, none⟩ = some (.int .u32 (l[k].id : Int)) ∧ w.cell? ⟨g, off + k * 4 + 2, none⟩ = some (.int .u32 (l[k].tick : Int)) ∧ w.cell? ⟨g, off + k * 4 + 3, none⟩ = some (.int .i64 l[k].size) := by
  obtain ⟨g, off, rfl, h0, hc⟩ := Sl.elem qic qic_len h k hk (by omega)
  exact ⟨g, off, rfl, h0, hc 0 (by omega), by rw [Nat.add_assoc]; exact hc 1 (by omega), by rw [Nat.add_assoc]; exact hc 2 (by omega), by rw [Nat.add_assoc]; exact hc 3 (by omega)⟩
theorem szQ_eq (x : QI) : min (max x.size 0) 65536 = (szQ x : Int) := by
  unfold szQ
  by_cases h1 : x.size < 0
  · rw [if_pos h1, Int.max_eq_right (by omega), Int.min_eq_left (by omega)]; rfl
  · rw [if_neg h1, Int.max_eq_left (by omega)]
    by_cases h2 : 65536 < x.size
    · rw [if_pos h2, Int.min_eq_right (by omega)]; rfl
    · rw [if_neg h2, Int.min_eq_left (by omega)]; omega
set_option maxHeartbeats 1000000 in
theorem size_any (x : QI) (w : World) : Calls Try.prog 22 #[.agg (qiv x)] w fun e w' => e = .returned (.int .i64 (szQ x : Int)) ∧ Frm (fun _ => False) w w' := by
  have hn := szQ_eq x
  have g0 := (Frm.refl (fun _ => False) w).alloc (.cells (qiv x) 36)
  obtain ⟨n, hnn⟩ : ∃ n, szQ x = n := ⟨_, rfl⟩
  rw [hnn] at hn ⊢
  clear hnn
  go_enter Try.func22, Try.ntmps22
  go_wp2_with fail
  go_ret
  exact ⟨rfl, g0⟩
set_option maxRecDepth 100000 in
set_option maxHeartbeats 2000000 in
theorem sum_any (v : Value) (l : List QI) (w : World) (h : QL w v l) (hb : l.length ≤ 1000000) : Calls Try.prog 13 #[v] w fun e w' => e = .returned (.int .i64 (sumQ l : Int)) ∧ Frm (fun _ => False) w w' := by
  obtain ⟨a, cap, rfl, hc1, hc2⟩ := h.slice
  unfold maxLen at hc2
  have HL := Lib.hid h
  clear h
  go_enter Try.func13, Try.ntmps13
  go_wp2_with fail
  go_loopw [3, 8] (fun s i wr => ∃ k : Nat, k ≤ l.length ∧ i = .int .i64 k ∧ s = .int .i64 (sumQ (l.take k) : Int) ∧ Frm (fun _ => False) w wr) (fun _ i _ => l.length - (intOf i).toNat)
  case atStart => exact ⟨0, Nat.zero_le _, rfl, by rw [List.take_zero]; rfl, Frm.refl _ _⟩
  case round =>
    obtain ⟨k, hk, rfl, rfl, g1⟩ := hrel
    by_cases hlt : k < l.length
    · have hki : (k : Int) < (l.length : Int) := by omega
      have hk0 : (0 : Int) ≤ (k : Int) := by omega
      obtain ⟨g, off, rfl, _, e0, e1, e2, e3⟩ := (HL.out.keepF g1).elem k hlt
      have hs : sumQ (l.take (k + 1)) = sumQ (l.take k) + szQ l[k] := by
        rw [List.take_succ_eq_append_getElem hlt, sumQ_append]; simp [sumQ]
      have hsl := sumQ_le (l.take k)
      rw [List.length_take, Nat.min_eq_left hk] at hsl
      obtain ⟨x, hx⟩ : ∃ x, l[k] = x := ⟨_, rfl⟩
      rw [hx] at e0 e1 e2 e3 hs
      have hxl := szQ_le x
      obtain ⟨q, hq⟩ : ∃ q, sumQ (l.take k) = q := ⟨_, rfl⟩
      rw [hq] at hs hsl ⊢
      have HS := Lib.hid hs
      clear hx hq hs
      have G := Lib.hid (g1.alloc (.cells (qiv x) 36))
      have b1 := Blk.alloc wr 36 (qiv x)
      have r0 := b1.cell 0 rfl
      have r1 := b1.cell 1 rfl
      have r2 := b1.cell 2 rfl
      have r3 := b1.cell 3 rfl
      have HC := Lib.hid (size_any x (wr.alloc (.cells (qiv x) 36)))
      clear b1 g1
      go_wp2_with fail
      refine HC.out.mono ?_
      rintro e w2 ⟨rfl, g2⟩
      have G2 := Lib.hid (G.out.trans g2)
      clear g2 r0 r1 r2 r3 e0 e1 e2 e3
      go_wp2_with fail
      go_roundw
      case rel => exact ⟨k + 1, hlt, by go_num, by rw [HS.out]; go_num, G2.out⟩
      case measure => simp [intOf]; omega
    · obtain rfl : k = l.length := by omega
      rw [List.take_length]
      go_wp2_with fail
      go_ret
      exact ⟨rfl, g1⟩
/-- What is read of what the call holds. -/
theorem QOwn.read {w : World} {v : Value} {l : List QI} (h : QOwn w v l) : QL w v l := Sl.ofRow h
theorem QOwn.slice {w : World} {v : Value} {l : List QI} (h : QOwn w v l) : ∃ a cap, v = .slice a l.length cap ∧ l.length ≤ cap ∧ cap ≤ maxLen := Row.slice h
theorem qinfo_parts {α β γ : Type} {o : Option TypeInfo} {f : TypeInfo → α} {g : TypeInfo → β} {h : TypeInfo → γ} {a : α} {b : β} {c : γ} (e : o.map (fun i => (f i, g i, h i)) = some (a, b, c)) : ∃ i, o = some i ∧ f i = a ∧ g i = b ∧ h i = c := by
  cases o with
  | none => cases e
  | some i => simp at e; exact ⟨i, rfl, e.1, e.2.1, e.2.2⟩
theorem infoQ : (Try.prog.info? 36).map (fun i => (i.zero, i.size, i.bytes)) = some (some (.agg #[.string ⟨#[]⟩, .int .u32 0, .int .u32 0, .int .i64 0]), 4, 32) := by kernel_rfl
theorem append_qis (w : World) (v x : Value) (l m : List QI) (h : QOwn w v l) (hs : QL w x m) (hb : l.length + m.length ≤ 1000000) :
    ∃ v' w', (Builtin.append_ #[22, 22] 22 #[v, x]).run Try.prog w = .ok v' w' ∧ QOwn w' v' (l ++ m) ∧ w.grownBy w' v.ownBlock ∧ (∀ g, v'.ownBlock = some g → v.ownBlock = some g ∨ w.heap.size ≤ g) := by
  obtain ⟨i0, hi, hz0, hz1, hz2⟩ := qinfo_parts infoQ
  obtain ⟨v', w', h1, h2, h3, h4⟩ := run_append_row w 22 22 22 36 i0 (.agg #[.string ⟨#[]⟩, .int .u32 0, .int .u32 0, .int .i64 0]) 4 32 Try.underlying22 hi hz0 hz1 hz2 rfl h x m.length (flat qic m)
    (Sl.src hs Try.underlying22 (flat_one qic qic_one m)) (by unfold maxLen; omega) (by omega)
  exact ⟨v', w', h1, by unfold QOwn; rw [List.length_append, flat_append]; exact h2, h3, h4⟩
theorem QOwn.empty (w : World) : QOwn (w.alloc (.cells #[] 36)) (.slice (some ⟨w.heap.size, 0, none⟩) 0 0) [] :=
  Row.made w 36 4 0 0 [] #[] rfl (Nat.le_refl _) (by decide) rfl rfl
theorem nilQ (w : World) (a : Option Addr) (n c n' c' : Nat) : (binOp .eql 22 (.slice a n c) (.slice none n' c')).run Try.prog w = .ok (.bool a.isNone) w := Lib.run_eql_slice_nil w _ _ a n c n' c' Try.underlying22
set_option maxRecDepth 100000 in
set_option maxHeartbeats 1000000 in
theorem qclone_any (v : Value) (l : List QI) (w : World) (h : QL w v l) (hb : l.length ≤ 1000000) : Calls Try.prog 26 #[v] w fun e w' => ∃ v', e = .returned v' ∧ QOwn w' v' l ∧ QTag w' v' ∧ Frm (fun _ => False) w w' ∧ ∀ g, v'.ownBlock = some g → w.heap.size ≤ g := by
  obtain ⟨a, cap, rfl, hc1, hc2⟩ := h.slice
  have hq := nilQ
  cases a with
  | none =>
    have hl : l = [] := by
      rcases Nat.eq_zero_or_pos l.length with h0 | h0
      · exact List.eq_nil_of_length_eq_zero h0
      · obtain ⟨_, _, e, _⟩ := Sl.elem qic qic_len h 0 h0 (by omega); cases e
    have Hl := Lib.hid hl
    clear hl
    go_enter Try.func26, Try.ntmps26
    go_wp2
    go_ret
    exact ⟨.slice none 0 0, rfl, by rw [Hl.out]; exact Row.nil_ _ _, (fun g hg => by cases hg), Frm.refl _ _, (fun g hg => by cases hg)⟩
  | some ad =>
    have h1 := h.keepF ((Frm.refl _ w).alloc (.cells #[] 36))
    obtain ⟨v', w', hrun, hrow, hg, ho⟩ := append_qis _ _ _ [] l (QOwn.empty w) h1 (by simp; omega)
    have htag : QTag w' v' := by
      obtain ⟨i0, hi, hz0, hz1, hz2⟩ := qinfo_parts infoQ
      have hsrc := Sl.src h1 Try.underlying22 (flat_one qic qic_one l)
      by_cases hl : l.length = 0
      · have hm := run_append_nothing (w.alloc (.cells #[] 36)) 22 22 22 36 i0 Try.underlying22 hi (some ⟨w.heap.size, 0, none⟩) 0 0 (Nat.le_refl _) (.slice (some ad) l.length cap) (by
          have hl0 : l = [] := List.eq_nil_of_length_eq_zero hl
          rw [hl] at hsrc
          rw [hl0] at hsrc ⊢
          rw [hz1]
          exact hsrc)
        rw [hm] at hrun
        cases hrun
        intro g hg
        cases hg
        exact ⟨_, _, Blk.alloc w _ _⟩
      · have hold : (Builtin.firstCells i0.size 0 (.slice (some ⟨w.heap.size, 0, none⟩) 0 0)).run Try.prog (w.alloc (.cells #[] 36)).drew = .ok ([] : List Value).toArray (w.alloc (.cells #[] 36)).drew :=
          run_firstCells_some _ i0.size 0 ⟨w.heap.size, 0, none⟩ 0 0 [] (by simp) fun j u hu => by simp at hu
        have hm := run_append_grow_src (w.alloc (.cells #[] 36)) 22 22 22 36 i0 _ Try.underlying22 hi hz0 (some ⟨w.heap.size, 0, none⟩) 0 0 [] hold (.slice (some ad) l.length cap) l.length (flat qic l) (by rw [hz1]; exact hsrc) (by omega) (by omega) (growslice_fits (by omega) (by rw [hz2]; omega))
        rw [hm] at hrun
        cases hrun
        intro g hg
        cases hg
        exact ⟨_, _, Blk.alloc (w.alloc (.cells #[] 36)).drew _ _⟩
    have Hrun := Lib.hid hrun
    clear hrun
    go_enter Try.func26, Try.ntmps26
    go_wp2_with (at_builtin; refine Lib.wpList_append_run _ rfl _ _ _ _ rfl _ _ rfl rfl _ _ Hrun.out ?_)
    go_ret
    refine ⟨v', rfl, hrow, htag, ((Frm.refl _ w).alloc _).grown hg (fun k hk e => by have e2 : w.heap.size = k := Option.some.inj e; omega), fun g hg => ?_⟩
    rcases ho g hg with e | e
    · cases e; exact Nat.le_refl _
    · simp at e; omega
end Go.Proofs.Ytpabblkdepefcaa
