/- What New makes of a device: a line; of none: nil. No condition. -/
import Derived.Test.YtfbaleomhghjeaaGreatLnC
import Derived.Test.YtfbaleomhghjeaaGreatDvJ
import Derived.Laws.MakeOwn
namespace Go.Proofs.YtfbaleomhghjeaaGreat
open Go.RowKit

theorem zinfo_parts {α β γ : Type} {o : Option TypeInfo} {f : TypeInfo → α} {g : TypeInfo → β} {h : TypeInfo → γ} {a : α} {b : β} {c : γ} (e : o.map (fun i => (f i, g i, h i)) = some (a, b, c)) : ∃ i, o = some i ∧ f i = a ∧ g i = b ∧ h i = c := by
  cases o with
  | none => cases e
  | some i => simp at e; exact ⟨i, rfl, e.1, e.2.1, e.2.2⟩
theorem infoZ : (Tryz.prog.info? 3).map (fun i => (i.zero, i.size, i.bytes)) = some (some (.int .i64 0), 1, 8) := by kernel_rfl
theorem zcs_append (a b : List Int) : zcs (a ++ b) = zcs a ++ zcs b := List.map_append
theorem zcs_one (l : List Int) : ∀ u ∈ zcs l, u.oneCell' = true := fun u hu => by
  unfold zcs at hu
  obtain ⟨z, _, rfl⟩ := List.mem_map.1 hu
  rfl
theorem append_zs (w : World) (v x : Value) (l m : List Int) (h : OwnZ w v l) (hs : Zs w x m) (hb : l.length + m.length ≤ 1000000) :
    ∃ v' w', (Builtin.append_ #[23, 23] 23 #[v, x]).run Tryz.prog w = .ok v' w' ∧ OwnZ w' v' (l ++ m) ∧ w.grownBy w' v.ownBlock ∧ (∀ g, v'.ownBlock = some g → v.ownBlock = some g ∨ w.heap.size ≤ g) := by
  obtain ⟨i0, hi, hz0, hz1, hz2⟩ := zinfo_parts infoZ
  obtain ⟨v', w', h1, h2, h3, h4⟩ := run_append_row w 23 23 23 3 i0 (.int .i64 0) 1 8 Tryz.underlying23 hi hz0 hz1 hz2 rfl h x m.length (zcs m)
    (Sl.src hs Tryz.underlying23 (zcs_one m)) (by unfold maxLen; omega) (by omega)
  exact ⟨v', w', h1, by unfold OwnZ; rw [List.length_append, zcs_append]; exact h2, h3, h4⟩
theorem OwnZ.empty (w : World) : OwnZ (w.alloc (.cells #[] 3)) (.slice (some ⟨w.heap.size, 0, none⟩) 0 0) [] :=
  Row.made w 3 1 0 0 [] #[] rfl (Nat.le_refl _) (by decide) rfl rfl
theorem nilZ (w : World) (a : Option Addr) (n c n' c' : Nat) : (binOp .eql 23 (.slice a n c) (.slice none n' c')).run Tryz.prog w = .ok (.bool a.isNone) w := Lib.run_eql_slice_nil w _ _ a n c n' c' Tryz.underlying23
set_option maxRecDepth 100000 in
set_option maxHeartbeats 1000000 in
theorem zclone_any (v : Value) (l : List Int) (w : World) (h : Zs w v l) (hb : l.length ≤ 1000000) : Calls Tryz.prog 37 #[v] w fun e w' => ∃ v', e = .returned v' ∧ OwnZ w' v' l ∧ Frm (fun _ => False) w w' ∧ ∀ g, v'.ownBlock = some g → w.heap.size ≤ g := by
  obtain ⟨a, cap, rfl, hc1, hc2⟩ := h.slice
  have hq := nilZ
  cases a with
  | none =>
    have hl : l = [] := by
      rcases Nat.eq_zero_or_pos l.length with h0 | h0
      · exact List.eq_nil_of_length_eq_zero h0
      · obtain ⟨_, _, e, _⟩ := Zs.at h 0 h0; cases e
    have Hl := Lib.hid hl
    clear hl
    go_enter Tryz.func37, Tryz.ntmps37
    go_wp2
    go_ret
    exact ⟨.slice none 0 0, rfl, by rw [Hl.out]; exact Row.nil_ _ _, Frm.refl _ _, (fun g hg => by cases hg)⟩
  | some ad =>
    have h1 := h.keepF ((Frm.refl _ w).alloc (.cells #[] 3))
    obtain ⟨v', w', hrun, hrow, hg, ho⟩ := append_zs _ _ _ [] l (OwnZ.empty w) h1 (by simp; omega)
    have Hrun := Lib.hid hrun
    clear hrun
    go_enter Tryz.func37, Tryz.ntmps37
    go_wp2_with (at_builtin; refine Lib.wpList_append_run _ rfl _ _ _ _ rfl _ _ rfl rfl _ _ Hrun.out ?_)
    go_ret
    refine ⟨v', rfl, hrow, ((Frm.refl _ w).alloc _).grown hg (fun k hk e => by have e2 : w.heap.size = k := Option.some.inj e; omega), fun g hg => ?_⟩
    rcases ho g hg with e | e
    · cases e; exact Nat.le_refl _
    · simp at e; omega
theorem ownBlock_blkOf {w : World} {v : Value} {l : List Int} (h : OwnZ w v l) : ∀ g, blkOf v = some g → v.ownBlock = some g := by
  intro g hg
  rcases h.2 with ⟨rfl, _⟩ | ⟨g', cap, rfl, _⟩
  · cases hg
  · exact hg
/-- A new line at v. -/
def NewLn (b f x : Nat) (L : LV) (w : World) (v : Value) (w' : World) : Prop := ∃ l, v = .pointer (some ⟨l, 0, none⟩) ∧ LnM w' l b f x L ∧ w.heap.size ≤ l ∧ Frm (fun _ => False) w w'
set_option maxRecDepth 100000 in
set_option maxHeartbeats 2000000 in
theorem lnew_any (b f x : Nat) (D : DV) (q : Int) (v : Value) (cs : List Int) (w : World) (h : DevM w b f x D) (hq : Z64 q) (hv : Zs w v cs) (hz : ∀ z ∈ cs, Z64 z) (hcl : cs.length ≤ 1000000) (P : Nat → Prop := fun _ => True) (hP : ∀ g, w.heap.size ≤ g → P g := by intros; trivial) :
    Calls Tryz.prog 12 #[.pointer (some ⟨b, 0, none⟩), .int .i64 q, v] w fun e w' => ∃ v', e = .returned v' ∧ NewLn b f x (LV.new D q cs P) w v' w' := by
  have HB := Lib.hid (blocks_any b f x D w h)
  have hn : ((D.n : Int) == 0) = false := by rw [beq_eq_false_iff_ne]; have := h.ok.lo; omega
  have HC := Lib.hid (zclone_any v cs w hv hcl)
  have H := Lib.hid h
  have HL := Lib.hid (And.intro hcl hP)
  clear h hv hcl hP
  go_enter Tryz.func12, Tryz.ntmps12
  go_wp2_with fail
  refine HB.out.mono ?_
  rintro e w1 ⟨rfl, rfl⟩
  go_wp2_with fail
  refine HC.out.mono ?_
  rintro e w1 ⟨v', rfl, hv', g1, hg1⟩
  obtain ⟨a', cap', rfl, hc1, hc2⟩ := hv'.zs.slice
  have H1 := Lib.hid (And.intro hv' (And.intro g1 hg1))
  have hzz := Lib.hid (And.intro hq hz)
  clear hv' g1 hg1 hc1 hc2 hq hz
  go_wp2_with fail
  go_ret
  obtain ⟨hv', g1, hg1⟩ := H1.out
  have h0 := H.out.keepF g1
  have hlt := h0.lt
  have hlen := hzz.out.2
  have g2 : Frm (fun _ => False) w1 (w1.alloc (.cells #[.pointer (some ⟨w1.heap.size, 0, none⟩), .pointer (some ⟨b, 0, none⟩), .int .i64 q, .slice a' cs.length cap', .int .i64 0, .bool false] 80)) := (Frm.refl _ w1).alloc _
  refine ⟨_, rfl, w1.heap.size, rfl, ⟨_, Blk.alloc w1 80 #[.pointer (some ⟨w1.heap.size, 0, none⟩), .pointer (some ⟨b, 0, none⟩), .int .i64 q, .slice a' cs.length cap', .int .i64 0, .bool false], h0.keepF g2, by omega, by omega, by omega, fun _ => hv'.zs.keepF g2, fun _ => .inr fun g hg => ?_, ⟨hzz.out.1, hzz.out.2, HL.out.1⟩⟩, g1.size, g1.trans g2⟩
  have ho := ownBlock_blkOf hv' g hg
  have h1 := hg1 g ho
  have h2 := Row.blk hv' g ho
  have h3 := H.out.lt
  exact ⟨by omega, by omega, by omega, HL.out.2 g h1⟩
end Go.Proofs.YtfbaleomhghjeaaGreat

