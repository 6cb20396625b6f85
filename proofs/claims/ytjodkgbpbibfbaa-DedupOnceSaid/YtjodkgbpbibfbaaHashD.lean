/- What Drop does. No condition. -/
import Derived.Test.YtjodkgbpbibfbaaHashX
import Derived.Deep.RegionWith
namespace Go.Proofs.Ytjodkgbpbibfbaa
open Go.RowKit

set_option maxRecDepth 100000 in
set_option maxHeartbeats 1000000 in
theorem drop_out (b : Nat) (s : List UInt8) (id : Nat) (L : Nat → List Nat) (fp : Nat → Prop) (w : World) (h : Hx w b L fp) (hs : s.length ≤ 9223372036854775807) (hid : id ∉ L (bk s)) :
    Calls Try.prog 41 #[.pointer (some ⟨b, 0, none⟩), .string (bs s), .int .u32 id] w (HxTo b L fp 5 w) := by
  have hk16 := bk_lt s
  have hB : ∀ W, Calls Try.prog 61 #[.string (bs s)] W fun e w' => e = .returned (.int .u8 (bk s : Nat)) ∧ ∃ n, w' = W.drewN n := fun W => bucket_any s W hs
  generalize bk s = k at *
  have HB := Lib.hid hB
  clear hB
  have h0 := h
  obtain ⟨h1, h2, v, hv, h4⟩ := h
  have ka : (0 : Int) ≤ (k : Int) := by omega
  have kb : (k : Int) < 16 := by omega
  go_enter Try.func41, Try.ntmps41
  go_wp2_with fail
  refine (made_any b L v _ hv).mono ?_
  rintro e w1 ⟨rfl, rfl⟩
  go_wp2_with fail
  go_quiet ((go_at_call 61; exact Calls.quiet_of (HB.out _)))
  have f1 : Frm (fun _ => False) w (w.drewN nq) := (Frm.refl _ w).drewN _
  generalize w.drewN nq = w2 at *
  have hv2 := hv.keepF f1
  have c2 := hv2.at k hk16
  go_wp2_with fail
  refine (index_no (v k) (L k) id _ (hv2.own k hk16).ids hid).mono ?_
  rintro e w3 ⟨rfl, hn⟩
  have f3 := f1.trans (Frm.ofDrew hn)
  clear hn
  go_wp2_with fail
  go_ret
  exact ⟨rfl, fp, h0.keepF f3, f3.mono (fun _ _ h => h.elim), fun k hk => .inl hk⟩

/-- Concat of what stands ahead of a place and of what stands behind it. -/
theorem concat_two (W : World) (q : Nat) (s1 s2 : Value) (l1 l2 : List Nat) (hq : q < W.heap.size) (c1 : W.cell? ⟨q, 0, none⟩ = some s1) (c2 : W.cell? ⟨q, 1, none⟩ = some s2) (i1 : Ids W s1 l1) (i2 : Ids W s2 l2) (hl : l1.length + l2.length ≤ 1000000) :
    Calls Try.prog 63 #[.slice (some ⟨q, 0, none⟩) 2 2] W (NewIds (l1 ++ l2) W) := by
  have h := concat_any q 2 [l1, l2] [s1, s2] W rfl hq ⟨by simp, by decide⟩ (fun k hk => ?_) (fun k hk => ?_) (by simpa using hl)
  · simpa using h
  · have : k = 0 ∨ k = 1 := by simp at hk; omega
    rcases this with rfl | rfl
    · exact c1
    · exact c2
  · have : k = 0 ∨ k = 1 := by simp at hk; omega
    rcases this with rfl | rfl
    · exact i1
    · exact i2

/-- What Concat leaves, for what follows: the answer, and the cell that it goes to. -/
def CatTo (l : List Nat) (w : World) (p : Addr) (u : Value) (e : Ending) (w' : World) : Prop :=
  ∃ a cap, e = .returned (.slice a l.length cap) ∧ Own w' (.slice a l.length cap) l ∧ Frm (fun _ => False) w w' ∧ (∀ g, Value.ownBlock (.slice a l.length cap) = some g → w.heap.size ≤ g) ∧ w'.cell? p = some u ∧ w'.frozen? p = false

theorem Sl.congr {w : World} {size n m : Nat} {v : Value} {xs : List Value} (h : Sl w size v n xs) (e : n = m) : Sl w size v m xs := e ▸ h
/-- What stands ahead of a place, and behind it. -/
theorem Ids.ahead {w : World} {g n cap i : Nat} {l : List Nat} (h : Ids w (.slice (some ⟨g, 0, none⟩) n cap) l) (hn : l.length = n) (hi : i < n) : Ids w (.slice (some ⟨g, 0, none⟩) i cap) (l.take i) := by
  subst hn
  obtain ⟨a', cap', e, hc, _⟩ := Ids.slice h
  cases e
  have := Sl.take h i cap (by omega) (by omega) (Nat.le_refl _)
  rw [Nat.mul_one, u32s_take] at this
  exact this.congr (by simp; omega)
theorem Ids.behind {w : World} {g n cap i : Nat} {l : List Nat} (h : Ids w (.slice (some ⟨g, 0, none⟩) n cap) l) (hn : l.length = n) (hi : i < n) (hc : cap ≠ i + 1) : Ids w (.slice (some ⟨g, i + 1, none⟩) (n - (i + 1)) (cap - (i + 1))) (l.drop (i + 1)) := by
  subst hn
  have := Sl.drop h (i + 1) (by omega)
  rw [Nat.mul_one, u32s_drop, if_neg hc] at this
  have e : Option.map (fun x : Addr => x.add (i + 1)) (some ⟨g, 0, none⟩) = some ⟨g, i + 1, none⟩ := by simp [Addr.add]
  rw [e] at this
  exact this.congr (by simp)
theorem Ids.last {w : World} {a : Option Addr} {l : List Nat} (i : Nat) (h : l.length = i + 1) : Ids w (.slice a 0 0) (l.drop (i + 1)) := by
  have e : l.drop (i + 1) = [] := List.drop_eq_nil_of_le (by omega)
  rw [e]
  exact Sl.nil_ w 1 a 0 (by decide)

set_option maxRecDepth 100000 in
set_option maxHeartbeats 2000000 in
theorem drop_in (b : Nat) (s : List UInt8) (id : Nat) (L : Nat → List Nat) (fp : Nat → Prop) (w : World) (h : Hx w b L fp) (hs : s.length ≤ 9223372036854775807) (hid : id ∈ L (bk s)) (hl : (L (bk s)).length ≤ 900000) :
    Calls Try.prog 41 #[.pointer (some ⟨b, 0, none⟩), .string (bs s), .int .u32 id] w (HxTo b (upd L (bk s) ((L (bk s)).erase id)) fp 0 w) := by
  have hk16 := bk_lt s
  have hB : ∀ W, Calls Try.prog 61 #[.string (bs s)] W fun e w' => e = .returned (.int .u8 (bk s : Nat)) ∧ ∃ n, w' = W.drewN n := fun W => bucket_any s W hs
  generalize bk s = k at *
  have HB := Lib.hid hB
  clear hB
  have h0 := h
  obtain ⟨h1, h2, v, hv, h4⟩ := h
  have ka : (0 : Int) ≤ (k : Int) := by omega
  have kb : (k : Int) < 16 := by omega
  have hI := index_yes (v k) (L k) id
  have herase := erase_idx hid
  have hlt := idx_lt hid
  generalize idx id (L k) = i at *
  have HI := Lib.hid hI
  generalize (L k).erase id = l' at *
  have HE := Lib.hid herase
  have hlen : 0 < (L k).length := by omega
  obtain ⟨g, cap, hvk, hcap1, hcap2⟩ : ∃ g cap, v k = .slice (some ⟨g, 0, none⟩) (L k).length cap ∧ (L k).length ≤ cap ∧ cap ≤ maxLen := by
    rcases (hv.own k hk16).2 with ⟨_, e⟩ | ⟨g, cap, e, a1, a2, _⟩
    · omega
    · exact ⟨g, cap, e, a1, a2⟩
  have HK := Lib.hid hvk
  clear hI herase hvk
  unfold maxLen at hcap2
  go_enter Try.func41, Try.ntmps41
  go_wp2_with fail
  refine (made_any b L v _ hv).mono ?_
  rintro e w1 ⟨rfl, rfl⟩
  go_wp2_with fail
  go_quiet ((go_at_call 61; exact Calls.quiet_of (HB.out _)))
  have f1 : Frm (fun _ => False) w (w.drewN nq) := (Frm.refl _ w).drewN _
  generalize w.drewN nq = w2 at *
  have hv2 := hv.keepF f1
  have c2 := hv2.at k hk16
  go_wp2_with fail
  refine (HI.out _ (hv2.own k hk16).ids hid).mono ?_
  rintro e w3 ⟨rfl, hn⟩
  have f3 := f1.trans (Frm.ofDrew hn)
  have hv3 := hv.keepF f3
  clear hn hv2 c2 f1
  have hi0 : (0 : Int) ≤ (i : Int) := by omega
  go_wp2_with fail
  have c3 := hv3.at k hk16
  have r3 := hv3.blk.free (1 + k)
  have o3 := (hv3.own k hk16).ids
  rw [HK.out] at c3 o3
  have hq : ∀ u t, ((w3.alloc (.cells #[u, t] 67)).drew.cell? ⟨b, 1 + k, none⟩ = some (.slice (some ⟨g, 0, none⟩) (L k).length cap)) ∧ (w3.alloc (.cells #[u, t] 67)).drew.frozen? ⟨b, 1 + k, none⟩ = false := fun u t => by
    have hb3 := hv3.blk.old (.cells #[u, t] 67)
    exact ⟨(hb3.cell (1 + k) (hxCells_at b v k hk16)).trans (by rw [HK.out]), hb3.free (1 + k)⟩
  have HC : ∀ s2, Ids w3 s2 ((L k).drop (i + 1)) → Calls Try.prog 63 #[.slice (some ⟨w3.heap.size, 0, none⟩) 2 2] (w3.alloc (.cells #[.slice (some ⟨g, 0, none⟩) i cap, s2] 67)).drew
      (CatTo l' w3 ⟨b, 1 + k, none⟩ (.slice (some ⟨g, 0, none⟩) (L k).length cap)) := fun s2 hs2 => by
    have hal := Blk.alloc w3 67 #[.slice (some ⟨g, 0, none⟩) i cap, s2]
    have fa : Frm (fun _ => False) w3 (w3.alloc (.cells #[.slice (some ⟨g, 0, none⟩) i cap, s2] 67)).drew := ((Frm.refl _ w3).alloc _).drew
    refine (concat_two _ w3.heap.size _ _ ((L k).take i) ((L k).drop (i + 1)) (by simp [World.drew]) (hal.drew.cell 0 rfl) (hal.drew.cell 1 rfl) ((Ids.ahead o3 rfl hlt).keepF fa) (hs2.keepF fa) ?_).mono ?_
    · simp; omega
    · rintro e w' ⟨v', rfl, a1, a2, a3⟩
      rw [← HE.out] at a1
      obtain ⟨a, cap', rfl, _, _⟩ := Row.slice a1
      refine ⟨a, cap', rfl, a1, fa.trans a2, fun g hg => Nat.le_trans fa.size (a3 g hg), ?_⟩
      have hb3 := (hv3.blk.keep fa (fun h => h)).keep a2 (fun h => h)
      exact ⟨(hb3.cell (1 + k) (hxCells_at b v k hk16)).trans (by rw [HK.out]), hb3.free (1 + k)⟩
  have HCh := Lib.hid HC
  clear HC hq
  have e1 : IntKind.i64.wrap ((i : Int) + 1) = (i : Int) + 1 := IntWalk.i64_in _ (by omega)
  have e2 : ((i : Int) + 1).toNat = i + 1 := by omega
  have hi1 : (0 : Int) ≤ (i : Int) + 1 := by omega
  have hi2 : (i : Int) + 1 ≤ ((L k).length : Int) := by omega
  have hi3 : (i : Int) ≤ (cap : Int) := by omega
  have hcz : ¬ cap = 0 := by omega
  by_cases hc : cap = i + 1
  · subst hc
    have hn1 : (L k).length = i + 1 := by omega
    have HCC := Lib.hid (HCh.out _ (Ids.last (a := some ⟨g, 0, none⟩) i hn1))
    have e3 : (L k).length - (i + 1) = 0 := by omega
    clear HCh o3 hn1
    go_region_with (go_at_call 63; refine HCC.out.mono ?_; rintro e w5 ⟨a', cap', rfl, a1, a2, a3, a4, a5⟩)
    all_goals
      go_wp2_with fail
      go_ret
      exact ⟨rfl, Hx.put h1 h2 h4 f3 hv3 hk16 (a2.mono (fun _ _ h => h.elim)) a1 (fun g hg => .inr (a3 g hg))⟩
  · have HCC := Lib.hid (HCh.out _ (Ids.behind o3 rfl hlt hc))
    clear HCh o3
    go_region_with (go_at_call 63; refine HCC.out.mono ?_; rintro e w5 ⟨a', cap', rfl, a1, a2, a3, a4, a5⟩)
    all_goals
      go_wp2_with fail
      go_ret
      exact ⟨rfl, Hx.put h1 h2 h4 f3 hv3 hk16 (a2.mono (fun _ _ h => h.elim)) a1 (fun g hg => .inr (a3 g hg))⟩

/-- Dropping an id from the items. -/
def dropR (I : List (Nat × Nat)) (k id : Nat) : Nat := if (k, id) ∈ I then 0 else 5
theorem drop_any (b : Nat) (s : List UInt8) (id : Nat) (I : List (Nat × Nat)) (fp : Nat → Prop) (w : World) (h : Hx w b (sel I) fp) (hs : s.length ≤ 9223372036854775807) (hl : I.length ≤ 900000) :
    Calls Try.prog 41 #[.pointer (some ⟨b, 0, none⟩), .string (bs s), .int .u32 id] w (HxTo b (sel (I.erase (bk s, id))) fp (dropR I (bk s) id) w) := by
  by_cases hm : (bk s, id) ∈ I
  · unfold dropR
    rw [if_pos hm]
    have e : sel (I.erase (bk s, id)) = upd (sel I) (bk s) ((sel I (bk s)).erase id) := by
      funext j
      rw [sel_erase, upd]
      by_cases e : bk s = j
      · subst e; simp
      · rw [if_neg e, if_neg (Ne.symm e)]
    rw [e]
    exact drop_in b s id (sel I) fp w h hs (mem_sel.2 hm) (Nat.le_trans (sel_len I _) hl)
  · unfold dropR
    rw [if_neg hm, List.erase_of_not_mem hm]
    exact drop_out b s id (sel I) fp w h hs (fun h => hm (mem_sel.1 h))
end Go.Proofs.Ytjodkgbpbibfbaa
