/- Acts, as they lie in memory; which may be gone through; the dots that bits tell; four registers side by side. No condition. -/
import Derived.Test.YtojbgckabifnjaaSwB
import Derived.Deep.MidRow
namespace Go.Proofs.Ytojbgckabifnjaa
open Go.RowKit

/-- An act: what, on which replica, from which one, over which dots, which value. -/
structure SActI where
  k : Nat
  r : Nat
  m : Nat
  o : Nat
  s : List UInt8
  hk : k < 256
  hr : r < 256
  hm : m < 256
  ho : o < 256
  hs : s.length ≤ 9223372036854775807
def sactc (x : SActI) : List Value := [.int .u8 x.k, .int .u8 x.r, .int .u8 x.m, .int .u8 x.o, .string (bs x.s)]
theorem sactc_len (x : SActI) : (sactc x).length = 5 := rfl
/-- A slice of acts that is only read. -/
def AcL (w : World) (v : Value) (l : List SActI) : Prop := Sl w 5 v l.length (flat sactc l)
section
variable {w w' : World} {v : Value} {l : List SActI}
theorem AcL.keepF (h : AcL w v l) (hf : Frm (fun _ => False) w w') : AcL w' v l := Sl.keepF h hf
theorem AcL.slice (h : AcL w v l) : ∃ a cap, v = .slice a l.length cap ∧ l.length ≤ cap ∧ cap ≤ maxLen := Sl.slice h
theorem AcL.cells {a : Option Addr} {cap : Nat} (h : AcL w (.slice a l.length cap) l) (k : Nat) (hk : k < l.length) :
    ∃ g off, a = some ⟨g, off, none⟩ ∧ w.cell? ⟨g, off + k * 5, none⟩ = some (.int .u8 l[k].k) ∧ w.cell? ⟨g, off + k * 5 + 1, none⟩ = some (.int .u8 l[k].r) ∧ w.cell? ⟨g, off + k * 5 + 2, none⟩ = some (.int .u8 l[k].m) ∧ w.cell? ⟨g, off + k * 5 + 3, none⟩ = some (.int .u8 l[k].o) ∧ w.cell? ⟨g, off + k * 5 + 4, none⟩ = some (.string (bs l[k].s)) := by
  obtain ⟨g, off, rfl, _, hc⟩ := Sl.elem sactc sactc_len h k hk (by omega)
  exact ⟨g, off, rfl, hc 0 (by omega), by rw [Nat.add_assoc]; exact hc 1 (by omega), by rw [Nat.add_assoc]; exact hc 2 (by omega), by rw [Nat.add_assoc]; exact hc 3 (by omega), by rw [Nat.add_assoc]; exact hc 4 (by omega)⟩
end
/-- May these acts be gone through? -/
def smallS (l : List SActI) : Prop := l.length ≤ 40 ∧ ∀ i (h : i < l.length), l[i].s.length ≤ 200
set_option maxRecDepth 100000 in
set_option maxHeartbeats 1000000 in
theorem small_yes (v : Value) (l : List SActI) (w : World) (h : AcL w v l) (hfew : smallS l) :
    Calls Try.prog 37 #[v] w fun e w' => e = .returned (.bool true) ∧ w = w' := by
  obtain ⟨a, cap, rfl, h1, h2⟩ := h.slice
  obtain ⟨f1, f2⟩ := hfew
  have F2 := Lib.hid f2
  have HA := Lib.hid h
  clear f2 h
  unfold maxLen at h2
  go_enter Try.func37, Try.ntmps37
  go_wp2
  go_loop [3] (fun i => ∃ k : Nat, k ≤ l.length ∧ i = .int .i64 k) (fun i => l.length - (intOf i).toNat)
  case atStart => exact ⟨0, Nat.zero_le _, rfl⟩
  case round =>
    obtain ⟨k, hk, rfl⟩ := hrel
    by_cases hlt : k < l.length
    · obtain ⟨g, off, rfl, x0, x1, x2, x3, x4⟩ := HA.out.cells k hlt
      have hq := F2.out k hlt
      have hsz : ((bs l[k].s).size : Int) ≤ 200 := by rw [bs_size]; omega
      have h110 : (k : Int) < 50 := by omega
      go_wp2
      go_round
      case rel => exact ⟨k + 1, by omega, by go_num⟩
      case measure => simp [intOf]; omega
    · obtain rfl : k = l.length := by omega
      go_wp2
      go_ret
      exact ⟨ret_bool (by simp; omega), rfl⟩
set_option maxRecDepth 100000 in
set_option maxHeartbeats 1000000 in
theorem small_no (v : Value) (l : List SActI) (w : World) (h : AcL w v l) (hfew : ¬ smallS l) :
    Calls Try.prog 37 #[v] w fun e w' => e = .returned (.bool false) ∧ w = w' := by
  obtain ⟨a, cap, rfl, h1, h2⟩ := h.slice
  have HF := Lib.hid hfew
  have HA := Lib.hid h
  clear hfew h
  unfold maxLen at h2
  go_enter Try.func37, Try.ntmps37
  go_wp2
  go_loop [3] (fun i => ∃ k : Nat, k ≤ l.length ∧ k ≤ 50 ∧ i = .int .i64 k ∧ ∀ j (h : j < l.length), j < k → l[j].s.length ≤ 200) (fun i => l.length - (intOf i).toNat)
  case atStart => exact ⟨0, Nat.zero_le _, by omega, rfl, fun j _ h => absurd h (by omega)⟩
  case round =>
    obtain ⟨k, hk, hk110, rfl, hall⟩ := hrel
    have Hall := Lib.hid hall
    clear hall
    by_cases hlt : k < l.length
    · obtain ⟨g, off, rfl, x0, x1, x2, x3, x4⟩ := HA.out.cells k hlt
      by_cases h110 : k < 50
      · have h110i : (k : Int) < 50 := by omega
        by_cases hq : l[k].s.length ≤ 200
        · have hsz : ((bs l[k].s).size : Int) ≤ 200 := by rw [bs_size]; omega
          go_wp2
          go_round
          case rel =>
            refine ⟨k + 1, by omega, by omega, by go_num, fun j hj hjk => ?_⟩
            by_cases e : j = k
            · subst e; exact hq
            · exact Hall.out j hj (by omega)
          case measure => simp [intOf]; omega
        · have hsz : (200 : Int) < ((bs l[k].s).size : Int) := by rw [bs_size]; omega
          go_wp2
          go_ret
          exact ⟨rfl, rfl⟩
      · have h110i : (50 : Int) ≤ (k : Int) := by omega
        have h100 : (40 : Int) < (l.length : Int) := by omega
        go_wp2
        go_ret
        exact ⟨ret_bool (by simp; omega), rfl⟩
    · obtain rfl : k = l.length := by omega
      have h100 : (40 : Int) < (l.length : Int) := by
        rcases Nat.lt_or_ge 40 l.length with h | h
        · omega
        · exact absurd ⟨h, fun i hi => Hall.out i hi hi⟩ HF.out
      go_wp2
      go_ret
      exact ⟨ret_bool (by simp; omega), rfl⟩

theorem Try.info27 : (Try.prog.info? 27).map (fun i => (i.zero, i.size, i.bytes)) = some (some (.agg #[.int .u8 0, .int .u32 0]), 2, 8) := by kernel_rfl
theorem append_adots (w : World) (v x : Value) (l m : List DotI) (h : OwnD w v l) (hs : DL w x m) (hb : l.length + m.length ≤ 1000000) :
    ∃ v' w', (Builtin.append_ #[40, 40] 40 #[v, x]).run Try.prog w = .ok v' w' ∧ OwnD w' v' (l ++ m) ∧ w.grownBy w' v.ownBlock ∧ (∀ g, v'.ownBlock = some g → v.ownBlock = some g ∨ w.heap.size ≤ g) := by
  obtain ⟨i0, hi, hz0, hz1, hz2⟩ := info_parts Try.info27
  obtain ⟨v', w', h1, h2, h3, h4⟩ := run_append_row w 40 40 40 27 i0 (.agg #[.int .u8 0, .int .u32 0]) 2 8 Try.underlying40 hi hz0 hz1 hz2 rfl h x m.length (flat dotc m)
    (Sl.src hs Try.underlying40 (flat_one dotc dotc_one m)) (by unfold maxLen; omega) (by omega)
  exact ⟨v', w', h1, by unfold OwnD; rw [List.length_append, flat_append]; exact h2, h3, h4⟩
theorem OwnD.blkOf {w : World} {v : Value} {l : List DotI} (h : OwnD w v l) : ∀ g, blkOf v = some g → v.ownBlock = some g := fun g hg => by
  rcases h.2 with ⟨e, _⟩ | ⟨g', c', e, _⟩
  · subst e; cases hg
  · subst e; cases hg; rfl
/-- Dots of these siblings. -/
def DotsOf (l : List SibI) (D : List DotI) : Prop := ∀ d ∈ D, ∃ y ∈ l, y.d = d
set_option maxRecDepth 100000 in
set_option maxHeartbeats 2000000 in
theorem named_any (f : Nat → Nat) (v : Value) (l : List SibI) (b : Nat) (w : World) (h : SL w v l) (hb : l.length ≤ 1000) :
    Calls Try.prog 74 #[rg f v, .int .u8 b] w fun e w' => ∃ v' D, e = .returned v' ∧ OwnD w' v' D ∧ D.length ≤ 8 ∧ DotsOf l D ∧ Frm (fun _ => False) w w' ∧ ∀ g, v'.ownBlock = some g → w.heap.size ≤ g := by
  obtain ⟨a, cap, rfl, h1, h2⟩ := h.slice
  unfold maxLen at h2
  have g0 : Frm (fun _ => False) w (w.alloc (.cells (rgc f (.slice a l.length cap)) 39)) := (Frm.refl _ w).alloc _
  have b0 := Blk.alloc w 39 (rgc f (.slice a l.length cap))
  have hs := h.keepF g0
  go_enter Try.func74, Try.ntmps74
  go_upto_region 1 with fail
  generalize w.alloc (.cells (rgc f (.slice a l.length cap)) 39) = w1 at *
  obtain ⟨N, hN⟩ : ∃ N, w.heap.size = N := ⟨_, rfl⟩
  have HN := Lib.hid hN
  rw [hN] at b0 ⊢
  clear hN h
  have c8 := b0.cell 8 rfl
  go_upto_region 3 with fail
  clear c8
  go_loopw [5, 6] (fun u i wr => ∃ (k : Nat) (D : List DotI), k ≤ l.length ∧ k ≤ 8 ∧ D.length ≤ k ∧ i = .int .i64 k ∧ OwnD wr u D ∧ DotsOf l D ∧ (∀ g, u.ownBlock = some g → w1.heap.size ≤ g) ∧ Frm (fun _ => False) w1 wr) (fun _ i _ => l.length - (intOf i).toNat)
  case atStart => exact ⟨0, [], Nat.zero_le _, by omega, Nat.le_refl _, rfl, OwnD.nil_ _, (fun d h => by cases h), (fun _ e => by cases e), Frm.refl _ _⟩
  case round =>
    obtain ⟨k, D, hk, hk8, hDk, rfl, hO, hDO, hNu, hF⟩ := hrel
    have HDO := Lib.hid hDO
    clear hDO
    have c8 := (b0.keep hF (fun h => h)).cell 8 rfl
    by_cases hlt : k < l.length
    · by_cases h8 : k < 8
      · have h8i : (k : Int) < 8 := by omega
        obtain ⟨g, off, rfl, x0, x1, x2⟩ := (hs.keepF hF).cells k hlt
        obtain ⟨a2, c2, rfl, _, _⟩ := Row.slice hO
        have hki : (k : Int) < (l.length : Int) := by omega
        have hk0 : (0 : Int) ≤ (k : Int) := by omega
        go_upto_region 5 with fail
        have f1 := (Frm.refl (fun _ => False) wr).alloc (.cells #[.int .u8 l[k].r, .int .u32 l[k].n] 27)
        have hone : DL (wr.alloc (.cells #[.int .u8 l[k].r, .int .u32 l[k].n] 27)) (.slice (some ⟨wr.heap.size, 0, none⟩) 1 1) [l[k].d] := Sl.built dotc dotc_len wr 27 l[k].d #[.int .u8 l[k].r, .int .u32 l[k].n] rfl
        obtain ⟨v', w3, hrun, hown, hgr, hnew⟩ := append_adots _ _ _ D [l[k].d] (hO.keep f1 (fun _ _ h => h)) hone (by simp; omega)
        have HN2 := Lib.hid hNu
        have HF0 := Lib.hid hF
        have HO0 := Lib.hid hO
        have HT := Lib.hid (show ∀ g, v'.ownBlock = some g → w1.heap.size ≤ g from fun g e => (hnew g e).elim (fun e => hNu g e) (fun e => by have := hF.size; simp at e; omega))
        have HF := Lib.hid (show Frm (fun _ => False) w1 w3 from (hF.trans f1).grown hgr (fun k hk e => by have := hNu k e; omega))
        have HO := Lib.hid hown
        have Hrun := Lib.hid hrun
        have HDD : Hid (DotsOf l (D ++ [l[k].d])) := Lib.hid fun d hd => by
          rcases List.mem_append.1 hd with h | h
          · exact HDO.out d h
          · exact ⟨l[k], List.getElem_mem hlt, (List.mem_singleton.1 h).symm⟩
        clear hrun hown hgr hnew hO hNu hone f1 hF
        go_upto_region 6 with fail
        · go_wp2_with (at_builtin; refine Lib.wpList_append_run _ rfl _ _ _ _ rfl _ _ rfl rfl _ _ Hrun.out ?_)
          go_roundw
          case rel => exact ⟨k + 1, D ++ [l[k].d], by omega, by omega, by simp; omega, by go_num, HO.out, HDD.out, HT.out, HF.out⟩
          case measure => simp [intOf]; omega
        · exact ⟨⟨k + 1, D, by omega, by omega, by omega, by go_num, HO0.out, HDO.out, HN2.out, HF0.out⟩, by simp [intOf]; omega⟩
      · have h8i : (8 : Int) ≤ (k : Int) := by omega
        obtain ⟨a2, c2, rfl, _, _⟩ := Row.slice hO
        go_wp2_with fail
        go_ret
        exact ⟨_, D, rfl, hO, by omega, HDO.out, g0.trans hF, fun g e => by have := hNu g e; have := g0.size; have := HN.out; omega⟩
    · obtain rfl : k = l.length := by omega
      obtain ⟨a2, c2, rfl, _, _⟩ := Row.slice hO
      go_wp2_with fail
      go_ret
      exact ⟨_, D, rfl, hO, by omega, HDO.out, g0.trans hF, fun g e => by have := hNu g e; have := g0.size; have := HN.out; omega⟩
end Go.Proofs.Ytojbgckabifnjaa

