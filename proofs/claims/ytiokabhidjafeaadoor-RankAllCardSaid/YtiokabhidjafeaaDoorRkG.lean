/- What tells whether texts are the same: just, or by their small letters. No condition but that texts aren't too long. -/
import Derived.Test.YtiokabhidjafeaaDoorRkE
namespace Go.Proofs.YtiokabhidjafeaaDoor
open Go.RowKit Go.Shelf

theorem infoU8 : (Tryd.prog.info? 5).map (fun i => (i.zero, i.size, i.bytes)) = some (some (.int .u8 0), 1, 1) := by kernel_rfl
theorem u8s_oneC (l : List UInt8) : ∀ u ∈ u8s l, u.oneCell' = true := fun u hu => by
  obtain ⟨_, _, rfl⟩ := List.mem_map.1 hu
  rfl
theorem append_u8s (w : World) (v x : Value) (l m : List UInt8) (h : Row w 1 v l.length (u8s l)) (hs : Sl w 1 x m.length (u8s m)) (hb : l.length + m.length ≤ 1000000) :
    ∃ v' w', (Builtin.append_ #[140, 140] 140 #[v, x]).run Tryd.prog w = .ok v' w' ∧ Row w' 1 v' (l ++ m).length (u8s (l ++ m)) ∧ w.grownBy w' v.ownBlock ∧ (∀ g, v'.ownBlock = some g → v.ownBlock = some g ∨ w.heap.size ≤ g) := by
  obtain ⟨i0, hi, hz0, hz1, hz2⟩ := info_parts infoU8
  obtain ⟨v', w', h1, h2, h3, h4⟩ := run_append_row w 140 140 140 5 i0 (.int .u8 0) 1 1 Tryd.underlying140 hi hz0 hz1 hz2 rfl h x m.length (u8s m)
    (Sl.src hs Tryd.underlying140 (u8s_oneC m)) (by unfold maxLen; omega) (by omega)
  exact ⟨v', w', h1, by rw [List.length_append, u8s_append]; exact h2, h3, h4⟩
theorem Sl.oneU8 (w : World) (c : UInt8) : Sl (w.alloc (.cells #[.int .u8 c.toNat] 5)) 1 (.slice (some ⟨w.heap.size, 0, none⟩) 1 1) 1 (u8s [c]) :=
  Sl.built (enc := fun b : UInt8 => [Value.int .u8 b.toNat]) (fun _ => rfl) w 5 c #[.int .u8 c.toNat] rfl
/-- A byte with a small letter. -/
def lowB (c : UInt8) : UInt8 := if 65 ≤ c.toNat ∧ c.toNat ≤ 90 then UInt8.ofNat (c.toNat + 32) else c
/-- A text with small letters. -/
def small (s : List UInt8) : List UInt8 := s.map lowB
def sameR (q : Bool) (x y : List UInt8) : Bool := x == y || (q && small x == small y)
theorem lowB_up {c : UInt8} {n : Nat} (hn : c.toNat = n) (h1 : 65 ≤ n) (h2 : n ≤ 90) : ((lowB c).toNat : Int) = (n : Int) + 32 := by
  unfold lowB
  rw [if_pos ⟨by omega, by omega⟩]
  simp
  omega
theorem lowB_no {c : UInt8} {n : Nat} (hn : c.toNat = n) (h : ¬ (65 ≤ n ∧ n ≤ 90)) : lowB c = c := by
  unfold lowB
  rw [if_neg (by rw [hn]; exact h)]
theorem just_any (a b : List UInt8) (w : World) : Calls Tryd.prog 25 #[.string (bs a), .string (bs b)] w fun e w' => e = .returned (.bool (a == b)) ∧ Frm (fun _ => False) w w' := by
  go_enter Tryd.func25, Tryd.ntmps25
  go_wp2
  go_ret
  exact ⟨by simp only [bs_toList]; rfl, Frm.refl _ _⟩
theorem alls_any (a b : Value) (w : World) : Calls Tryd.prog 52 #[a, b] w fun e w' => e = .returned (.bool true) ∧ Frm (fun _ => False) w w' := by
  go_enter Tryd.func52, Tryd.ntmps52
  go_wp2
  go_ret
  exact ⟨rfl, Frm.refl _ _⟩
set_option maxRecDepth 100000 in
set_option maxHeartbeats 4000000 in
theorem small_any (a : List UInt8) (w : World) (ha : a.length ≤ 1000) : Calls Tryd.prog 50 #[.string (bs a)] w fun e w' => e = .returned (.string (bs (small a))) ∧ Frm (fun _ => False) w w' := by
  have hsz : (bs a).size = a.length := rfl
  have Hsz := Lib.hid hsz
  have hl' : (bs a).size ≤ 1000 := ha
  clear hsz
  go_enter Tryd.func50, Tryd.ntmps50
  go_wp2_with fail
  go_loopw [3, 4, 5] (fun v0 i c wr => ∃ (k : Nat) (v : Value), k ≤ a.length ∧ v = v0 ∧ i = .int .i64 k ∧ Frm (fun _ => False) w wr ∧ Row wr 1 v k (u8s (small (a.take k))) ∧ ∀ g, v.ownBlock = some g → w.heap.size ≤ g) (fun _ i _ _ => a.length - (intOf i).toNat)
  case atStart => exact ⟨0, _, Nat.zero_le _, rfl, rfl, Frm.refl _ _, by rw [List.take_zero]; exact Row.nil_ w 1, fun g h => by cases h⟩
  case round =>
    obtain ⟨k, v, hk, rfl, rfl, hf, ho, hg⟩ := hrel
    by_cases hlt : k < a.length
    · have hlt' : k < (bs a).size := hlt
      have hc : ((bs a)[k]'hlt').toNat < 256 := UInt8.toNat_lt _
      have hsm : small (a.take (k + 1)) = small (a.take k) ++ [lowB ((bs a)[k]'hlt')] := by
        unfold small
        rw [List.take_succ_eq_append_getElem hlt, List.map_append]
        rfl
      have HSM := Lib.hid hsm
      have hlen : (small (a.take k)).length = k := by simp [small]; omega
      have HF := Lib.hid hf
      have HO := Lib.hid ho
      have HG := Lib.hid hg
      have HLEN := Lib.hid hlen
      clear hsm hf ho hg hlen
      generalize hX : (bs a)[k]'hlt' = x at *
      obtain ⟨n, hn⟩ : ∃ n, x.toNat = n := ⟨_, rfl⟩
      have HX := Lib.hid hX
      have HN := Lib.hid hn
      obtain ⟨y, hy⟩ : ∃ y, lowB x = y := ⟨_, rfl⟩
      have HAP : Hid (∃ v' w', (Builtin.append_ #[140, 140] 140 #[v, .slice (some ⟨wr.heap.size, 0, none⟩) 1 1]).run Tryd.prog (wr.alloc (.cells #[.int .u8 y.toNat] 5)) = .ok v' w' ∧ Row w' 1 v' (k + 1) (u8s (small (a.take (k + 1)))) ∧ Frm (fun _ => False) w w' ∧ ∀ g, v'.ownBlock = some g → w.heap.size ≤ g) := Lib.hid (by
        have gA : Frm (fun _ => False) wr (wr.alloc (.cells #[.int .u8 y.toNat] 5)) := (Frm.refl _ wr).alloc _
        obtain ⟨v', w', h1, h2, h3, h4⟩ := append_u8s _ v _ (small (a.take k)) [y] (by rw [HLEN.out]; exact Row.keep HO.out gA (fun _ _ h => h)) (Sl.oneU8 wr y) (by rw [HLEN.out]; simp; omega)
        refine ⟨v', w', h1, ?_, (HF.out.trans gA).grown h3 (fun q hq e => by have := HG.out q e; omega), fun g e => ?_⟩
        · rw [HSM.out, hy]
          have := h2
          rw [List.length_append, HLEN.out] at this
          exact this
        · rcases h4 g e with e2 | e2
          · exact HG.out g e2
          · have := gA.size; have := HF.out.size; omega)
      obtain ⟨v', w', hrun, hrow, hfr, hgg⟩ := HAP.out
      have HR := Lib.hid hrow
      have HFR := Lib.hid hfr
      have HGG := Lib.hid hgg
      clear HAP hrow hfr hgg
      by_cases hup : 65 ≤ n ∧ n ≤ 90
      · have e32 := lowB_up hn hup.1 hup.2
        rw [hy] at e32
        have Hrun := Lib.hid (e32 ▸ hrun)
        clear hrun
        have u1 : (65 : Int) ≤ (n : Int) := by omega
        have u2 : (n : Int) ≤ 90 := by omega
        go_wp2_with (at_builtin; refine Lib.wpList_append_run _ rfl _ _ _ _ rfl _ _ rfl rfl _ _ Hrun.out ?_)
        go_roundw
        case rel => exact ⟨k + 1, _, by omega, rfl, by go_num, HFR.out, HR.out, HGG.out⟩
        case measure => simp [intOf]; omega
      · have e0 := lowB_no hn hup
        rw [hy] at e0
        subst e0
        rw [hn] at hrun
        have Hrun := Lib.hid hrun
        clear hrun
        by_cases h65 : 65 ≤ n
        · have u1 : (65 : Int) ≤ (n : Int) := by omega
          have u2 : ¬ (n : Int) ≤ 90 := by omega
          go_wp2_with (at_builtin; refine Lib.wpList_append_run _ rfl _ _ _ _ rfl _ _ rfl rfl _ _ Hrun.out ?_)
          go_roundw
          case rel => exact ⟨k + 1, _, by omega, rfl, by go_num, HFR.out, HR.out, HGG.out⟩
          case measure => simp [intOf]; omega
        · have u1 : ¬ (65 : Int) ≤ (n : Int) := by omega
          go_wp2_with (at_builtin; refine Lib.wpList_append_run _ rfl _ _ _ _ rfl _ _ rfl rfl _ _ Hrun.out ?_)
          go_roundw
          case rel => exact ⟨k + 1, _, by omega, rfl, by go_num, HFR.out, HR.out, HGG.out⟩
          case measure => simp [intOf]; omega
    · obtain rfl : k = a.length := by omega
      have hge : (bs a).size ≤ a.length := Nat.le_refl _
      have hlt2 : ¬ ((a.length : Int) < ((bs a).size : Int)) := by rw [Hsz.out]; omega
      rw [List.take_length] at ho
      have hcv : (convert 140 9 v).run Tryd.prog wr = .ok (.string (bs (small a))) wr := run_text_of Tryd.underlying140 Tryd.underlying9 Tryd.underlying5 wr v (small a) (by rw [show (small a).length = a.length from by simp [small]]; exact ho)
      go_wp2_with fail
      go_ret
      exact ⟨rfl, hf⟩
end Go.Proofs.YtiokabhidjafeaaDoor

