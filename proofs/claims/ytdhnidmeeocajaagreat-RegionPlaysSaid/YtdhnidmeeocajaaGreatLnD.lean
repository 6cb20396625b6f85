/- What Write and Flush of a line answer and leave. No condition. -/
import Derived.Test.YtdhnidmeeocajaaGreatLnB
import Derived.Deep.DeepCutAuto
import Derived.Test.YtdhnidmeeocajaaGreatDvJ
import Derived.Laws.MakeOwn
section
namespace Go.Proofs.YtdhnidmeeocajaaGreat
open Go.RowKit Go.Shelf

set_option maxRecDepth 100000 in
set_option maxHeartbeats 2000000 in
theorem lwrite1_any (l b f x a0 a1 a2 : Nat) (L : LV) (q : Int) (s : List UInt8) (w : World) (h : LnM w l b f x L) (hq : Z64 q) (hs : s.length ≤ 9223372036854775807)
    (c0 : w.cell? ⟨a0, 0, none⟩ = some (.pointer (some ⟨l, 0, none⟩))) (c1 : w.cell? ⟨a1, 0, none⟩ = some (.int .i64 q)) (c2 : w.cell? ⟨a2, 0, none⟩ = some (.string (bs s))) :
    Calls Tryz.prog 45 #[.pointer (some ⟨a0, 0, none⟩), .pointer (some ⟨a1, 0, none⟩), .pointer (some ⟨a2, 0, none⟩)] w fun e w' => e = .returned (.int .i64 (L.D.writeE q s : Nat)) ∧ DevM w' b f x (L.D.writeTo q s) ∧ Frm (fun k => k = f ∨ k = x) w w' := by
  have cd := h.d
  have HW : Hid (∀ W, Frm (fun _ => False) w W → Calls Tryz.prog 32 #[.pointer (some ⟨b, 0, none⟩), .int .i64 q, .string (bs s)] W fun e w' => e = .returned (.int .i64 (L.D.writeE q s : Nat)) ∧ DevM w' b f x (L.D.writeTo q s) ∧ Frm (· = x) W w') := Lib.hid fun W g => write_any b f x L.D q s W (h.dev.keepF g) hq hs
  clear h hq hs
  go_enter Tryz.func45, Tryz.ntmps45
  go_upto_region 1 with fail
  refine wp_region_tail 6 1 (fun w' => w'.cell? ⟨a0, 0, none⟩ = some (.pointer (some ⟨l, 0, none⟩)) ∧ w'.cell? ⟨a1, 0, none⟩ = some (.int .i64 q) ∧ w'.cell? ⟨a2, 0, none⟩ = some (.string (bs s)) ∧ w'.cell? ⟨l, 1, none⟩ = some (.pointer (some ⟨b, 0, none⟩)) ∧ Frm (fun _ => False) w w') (by kernel_rfl) rfl rfl (by kernel_rfl) (by kernel_rfl) (by kernel_rfl) (by kernel_rfl) (⟨c0, c1, c2, cd, (Frm.refl _ w).drew⟩) ?_
  repeat' first
    | (refine CanonL.skip (by rfl) ?_; (try simp only [Act.put, List.setIfInBounds_toArray, List.set_cons_zero, List.set_cons_succ]))
    | (refine CanonL.val (v := ?_) (by rfl) ?_ ?_; rotate_left 1; (focus (intro w hSw; (try dsimp only at hSw); go_simp; (try (with_reducible rfl)); done)); (try simp only [Act.put, List.setIfInBounds_toArray, List.set_cons_zero, List.set_cons_succ]))
  refine CanonL.done ?_
  intro w9 hS9
  obtain ⟨_, _, _, _, g9⟩ := hS9
  have HW9 := Lib.hid (HW.out w9 g9)
  have G9 := Lib.hid g9
  clear g9 HW
  refine wpTail.cons rfl rfl (fun K hK => ?_)
  unfold Oper.wp execOp
  go_simp
  with_reducible refine HW9.out.mono ?_
  rintro e w1 ⟨rfl, hd1, g1⟩
  refine hK _ _ ?_
  clear hK K
  try simp only [Act.put, List.setIfInBounds_toArray, List.set_cons_zero, List.set_cons_succ]
  refine wpTail.cons rfl rfl (fun K hK => ?_)
  unfold Oper.wp execOp
  go_simp
  refine hK _ _ ?_
  clear hK K
  try simp only [Act.put, List.setIfInBounds_toArray, List.set_cons_zero, List.set_cons_succ]
  refine wpTail.done ?_
  go_wp2_with fail
  go_ret
  exact ⟨rfl, hd1, (G9.out.mono fun _ _ h => h.elim).trans (g1.mono fun _ _ h => .inr h)⟩
set_option maxRecDepth 100000 in
set_option maxHeartbeats 2000000 in
theorem lflush1_any (l b f x a0 : Nat) (L : LV) (w : World) (h : LnM w l b f x L) (c0 : w.cell? ⟨a0, 0, none⟩ = some (.pointer (some ⟨l, 0, none⟩))) :
    Calls Tryz.prog 74 #[.pointer (some ⟨a0, 0, none⟩)] w fun e w' => e = .returned (.int .i64 (0 : Nat)) ∧ DevM w' b f x L.D.flush ∧ Frm (fun k => k = f ∨ k = x) w w' := by
  have cd := h.d
  have HW := Lib.hid (flush_any b f x L.D w h.dev)
  clear h
  go_enter Tryz.func74, Tryz.ntmps74
  go_wp2_with fail
  refine HW.out.mono ?_
  rintro e w1 ⟨rfl, hd1, g1⟩
  go_wp2_with fail
  go_ret
  exact ⟨rfl, hd1, g1⟩
theorem LnM.actTo_low {w w1 : World} {l b f x : Nat} {L : LV} (h : LnM w l b f x L) (g1 : Frm (fun _ => False) w w1) {W : World} (g : Frm (LnX l f x) w1 W) (k : Nat) (hk : w.heap.size ≤ k) (hk1 : k < w1.heap.size) (o : Nat) : W.cell? ⟨k, o, none⟩ = w1.cell? ⟨k, o, none⟩ :=
  World.cell?_of_block (a := ⟨k, o, none⟩) (g.block k hk1 (by have := h.lt; have := g1.size; unfold LnX; omega))
set_option maxRecDepth 100000 in
set_option maxHeartbeats 4000000 in
theorem lwrite_any (l b f x : Nat) (L : LV) (q : Int) (s : List UInt8) (w : World) (h : LnM w l b f x L) (ha : L.acts ≤ 1000000) (hq : Z64 q) (hs : s.length ≤ 9223372036854775807) :
    Calls Tryz.prog 16 #[.pointer (some ⟨l, 0, none⟩), .int .i64 q, .string (bs s)] w fun e w' => e = .returned (.int .i64 (L.code (L.D.writeE q s) : Nat)) ∧ LnM w' l b f x (L.act (L.D.writeTo q s)) ∧ Frm (LnX l f x) w w' := by
  obtain ⟨w3, hw3⟩ : ∃ w3, ((w.alloc (.cells #[.pointer (some ⟨l, 0, none⟩)] 32)).alloc (.cells #[.int .i64 q] 3)).alloc (.cells #[.string (bs s)] 9) = w3 := ⟨_, rfl⟩
  have g3 : Frm (fun _ => False) w w3 := by
    subst hw3
    exact (((Frm.refl _ w).alloc _).alloc _).alloc _
  have hz3 : w3.heap.size = w.heap.size + 3 := by subst hw3; simp
  have k0 : w3.cell? ⟨w.heap.size, 0, none⟩ = some (.pointer (some ⟨l, 0, none⟩)) := by subst hw3; exact (((Blk.alloc w _ _).old _).old _).cell 0 rfl
  have k1 : w3.cell? ⟨w.heap.size + 1, 0, none⟩ = some (.int .i64 q) := by
    subst hw3
    have := ((Blk.alloc (w.alloc (.cells #[.pointer (some ⟨l, 0, none⟩)] 32)) 3 #[.int .i64 q]).old (.cells #[.string (bs s)] 9)).cell 0 rfl
    simpa using this
  have k2 : w3.cell? ⟨w.heap.size + 1 + 1, 0, none⟩ = some (.string (bs s)) := by
    subst hw3
    have := (Blk.alloc ((w.alloc (.cells #[.pointer (some ⟨l, 0, none⟩)] 32)).alloc (.cells #[.int .i64 q] 3)) 9 #[.string (bs s)]).cell 0 rfl
    simpa using this
  have HR := Lib.hid (lreq_any l b f x L (L.D.writeTo q s) (L.D.writeE q s) 45 #[.pointer (some ⟨w.heap.size, 0, none⟩), .pointer (some ⟨w.heap.size + 1, 0, none⟩), .pointer (some ⟨w.heap.size + 1 + 1, 0, none⟩)] w3 (h.keepF g3) ha (fun W => by go_simp) (fun W g hL => by
    have := lwrite1_any l b f x w.heap.size (w.heap.size + 1) (w.heap.size + 1 + 1) L.count q s W hL hq hs (by rw [h.actTo_low g3 g _ (by omega) (by omega)]; exact k0) (by rw [h.actTo_low g3 g _ (by omega) (by omega)]; exact k1) (by rw [h.actTo_low g3 g _ (by omega) (by omega)]; exact k2)
    exact this))
  have G3 := Lib.hid (And.intro g3 (h.lt))
  clear h g3 k1 k2 hz3 hq hs ha
  go_enter Tryz.func16, Tryz.ntmps16
  go_wp2_with fail
  refine HR.out.mono ?_
  rintro e w4 ⟨rfl, h4, g4⟩
  have G4 := Lib.hid (G3.out.1.mono (fun _ _ h => h.elim : ∀ k, k < w.heap.size → False → LnX l f x k) |>.trans g4)
  clear hw3 g4 HR k0
  go_wp2_with fail
  go_ret
  exact ⟨rfl, h4, G4.out⟩
set_option maxRecDepth 100000 in
set_option maxHeartbeats 4000000 in
theorem lnflush_any (l b f x : Nat) (L : LV) (w : World) (h : LnM w l b f x L) (ha : L.acts ≤ 1000000) :
    Calls Tryz.prog 39 #[.pointer (some ⟨l, 0, none⟩)] w fun e w' => e = .returned (.int .i64 (L.code 0 : Nat)) ∧ LnM w' l b f x (L.act L.D.flush) ∧ Frm (LnX l f x) w w' := by
  obtain ⟨w3, hw3⟩ : ∃ w3, w.alloc (.cells #[.pointer (some ⟨l, 0, none⟩)] 32) = w3 := ⟨_, rfl⟩
  have g3 : Frm (fun _ => False) w w3 := by
    subst hw3
    exact (Frm.refl _ w).alloc _
  have hz3 : w3.heap.size = w.heap.size + 1 := by subst hw3; simp
  have k0 : w3.cell? ⟨w.heap.size, 0, none⟩ = some (.pointer (some ⟨l, 0, none⟩)) := by subst hw3; exact (Blk.alloc w _ _).cell 0 rfl
  have HR := Lib.hid (lreq_any l b f x L L.D.flush 0 74 #[.pointer (some ⟨w.heap.size, 0, none⟩)] w3 (h.keepF g3) ha (fun W => by go_simp) (fun W g hL => by
    have := lflush1_any l b f x w.heap.size L.count W hL (by rw [h.actTo_low g3 g _ (by omega) (by omega)]; exact k0)
    exact this))
  have G3 := Lib.hid (And.intro g3 (h.lt))
  clear h g3 hz3 ha
  go_enter Tryz.func39, Tryz.ntmps39
  go_wp2_with fail
  refine HR.out.mono ?_
  rintro e w4 ⟨rfl, h4, g4⟩
  have G4 := Lib.hid (G3.out.1.mono (fun _ _ h => h.elim : ∀ k, k < w.heap.size → False → LnX l f x k) |>.trans g4)
  clear hw3 g4 HR k0
  go_wp2_with fail
  go_ret
  exact ⟨rfl, h4, G4.out⟩
theorem NoLn.keepF {p : Value} {w w' : World} (h : NoLn p w) (g : Frm (fun _ => False) w w') : NoLn p w' :=
  h.imp id fun ⟨b, e, c⟩ => ⟨b, e, by rw [World.cell?_of_block (a := ⟨b, 0, none⟩) (g.block b (World.block_lt_of_cell? w _ c) (fun h => h))]; exact c⟩
end Go.Proofs.YtdhnidmeeocajaaGreat
end
section
namespace Go.Proofs.YtdhnidmeeocajaaGreat
open Go.RowKit Go.Shelf

theorem madeZeros (n : Nat) : madeCells (Value.int .u8 0).cells n = (u8s (List.replicate n 0)).toArray := by
  apply Array.ext
  · rw [size_madeCells]
    simp [u8s]
  · intro i h1 h2
    have e : i % 1 = 0 := Nat.mod_one i
    simp [madeCells, Value.cells, u8s, e]
/-- make([]byte, n). -/
theorem run_makeZ (n : Nat) (hn : n ≤ 1000000) (W : World) : (Instr.makeSlice 77 (.int .i64 (n : Int)) (.int .i64 (n : Int))).run Tryz.prog W = .ok (.slice (some ⟨W.heap.size, 0, none⟩) n n) (W.alloc (.cells (u8s (List.replicate n 0)).toArray 5)) := by
  obtain ⟨i0, hi, h⟩ := Option.map_eq_some_iff.1 (show (Tryz.prog.info? 5).map (fun i => (i.zero, i.size, i.bytes)) = some (some (.int .u8 0), 1, 1) by kernel_rfl)
  simp only [Prod.mk.injEq] at h
  obtain ⟨hz0, hz1, hz2⟩ := h
  have hmk := run_make (P := Tryz.prog) W 77 5 i0 (.int .u8 0) Tryz.underlying77 hi hz0 .i64 .i64 n n (by omega) (by omega) (by rw [hz2]; omega) (by omega)
  rw [Int.toNat_natCast, hz1, Nat.mul_one, madeZeros] at hmk
  exact hmk
theorem run_textZ (n : Nat) (W : World) : (convert 77 9 (.slice (some ⟨W.heap.size, 0, none⟩) n n)).run Tryz.prog (W.alloc (.cells (u8s (List.replicate n 0)).toArray 5)) = .ok (.string (bs (List.replicate n 0))) (W.alloc (.cells (u8s (List.replicate n 0)).toArray 5)) :=
  run_text_at Tryz.underlying77 Tryz.underlying9 Tryz.underlying5 _ _ n n _ (by simp) fun j hj => by
    rw [u8s_get _ j (by simpa using hj)]
    exact (Blk.alloc W 5 (u8s (List.replicate n 0)).toArray).cell j (by rw [List.getElem?_toArray]; exact u8s_get (List.replicate n 0) j (by simpa using hj))
end Go.Proofs.YtdhnidmeeocajaaGreat
end
section
namespace Go.Proofs.YtdhnidmeeocajaaGreat
open Go.RowKit

theorem zinfo_parts {α β γ : Type} {o : Option TypeInfo} {f : TypeInfo → α} {g : TypeInfo → β} {h : TypeInfo → γ} {a : α} {b : β} {c : γ} (e : o.map (fun i => (f i, g i, h i)) = some (a, b, c)) : ∃ i, o = some i ∧ f i = a ∧ g i = b ∧ h i = c := by
  cases o with
  | none => cases e
  | some i => simp at e; exact ⟨i, rfl, e.1, e.2.1, e.2.2⟩
theorem infoZ : (Tryz.prog.info? 3).map (fun i => (i.zero, i.size, i.bytes)) = some (some (.int .i64 0), 1, 8) := by kernel_rfl
theorem zcs_append (a b : List Int) : zcs (a ++ b) = zcs a ++ zcs b := List.map_append
theorem zcs_one (l : List Int) : ∀ u ∈ zcs l, u.oneCell' = true := fun u hu => by
  unfold zcs at hu
  obtain ⟨z, _, rfl⟩ := List.mem_map.1 hu
  rfl
theorem append_zs (w : World) (v x : Value) (l m : List Int) (h : OwnZ w v l) (hs : Zs w x m) (hb : l.length + m.length ≤ 1000000) :
    ∃ v' w', (Builtin.append_ #[23, 23] 23 #[v, x]).run Tryz.prog w = .ok v' w' ∧ OwnZ w' v' (l ++ m) ∧ w.grownBy w' v.ownBlock ∧ (∀ g, v'.ownBlock = some g → v.ownBlock = some g ∨ w.heap.size ≤ g) := by
  obtain ⟨i0, hi, hz0, hz1, hz2⟩ := zinfo_parts infoZ
  obtain ⟨v', w', h1, h2, h3, h4⟩ := run_append_row w 23 23 23 3 i0 (.int .i64 0) 1 8 Tryz.underlying23 hi hz0 hz1 hz2 rfl h x m.length (zcs m)
    (Sl.src hs Tryz.underlying23 (zcs_one m)) (by unfold maxLen; omega) (by omega)
  exact ⟨v', w', h1, by unfold OwnZ; rw [List.length_append, zcs_append]; exact h2, h3, h4⟩
theorem OwnZ.empty (w : World) : OwnZ (w.alloc (.cells #[] 3)) (.slice (some ⟨w.heap.size, 0, none⟩) 0 0) [] :=
  Row.made w 3 1 0 0 [] #[] rfl (Nat.le_refl _) (by decide) rfl rfl
theorem nilZ (w : World) (a : Option Addr) (n c n' c' : Nat) : (binOp .eql 23 (.slice a n c) (.slice none n' c')).run Tryz.prog w = .ok (.bool a.isNone) w := Lib.run_eql_slice_nil w _ _ a n c n' c' Tryz.underlying23
set_option maxRecDepth 100000 in
set_option maxHeartbeats 1000000 in
theorem zclone_any (v : Value) (l : List Int) (w : World) (h : Zs w v l) (hb : l.length ≤ 1000000) : Calls Tryz.prog 37 #[v] w fun e w' => ∃ v', e = .returned v' ∧ OwnZ w' v' l ∧ Frm (fun _ => False) w w' ∧ ∀ g, v'.ownBlock = some g → w.heap.size ≤ g := by
  obtain ⟨a, cap, rfl, hc1, hc2⟩ := h.slice
  have hq := nilZ
  cases a with
  | none =>
    have hl : l = [] := by
      rcases Nat.eq_zero_or_pos l.length with h0 | h0
      · exact List.eq_nil_of_length_eq_zero h0
      · obtain ⟨_, _, e, _⟩ := Zs.at h 0 h0; cases e
    have Hl := Lib.hid hl
    clear hl
    go_enter Tryz.func37, Tryz.ntmps37
    go_wp2
    go_ret
    exact ⟨.slice none 0 0, rfl, by rw [Hl.out]; exact Row.nil_ _ _, Frm.refl _ _, (fun g hg => by cases hg)⟩
  | some ad =>
    have h1 := h.keepF ((Frm.refl _ w).alloc (.cells #[] 3))
    obtain ⟨v', w', hrun, hrow, hg, ho⟩ := append_zs _ _ _ [] l (OwnZ.empty w) h1 (by simp; omega)
    have Hrun := Lib.hid hrun
    clear hrun
    go_enter Tryz.func37, Tryz.ntmps37
    go_wp2_with (at_builtin; refine Lib.wpList_append_run _ rfl _ _ _ _ rfl _ _ rfl rfl _ _ Hrun.out ?_)
    go_ret
    refine ⟨v', rfl, hrow, ((Frm.refl _ w).alloc _).grown hg (fun k hk e => by have e2 : w.heap.size = k := Option.some.inj e; omega), fun g hg => ?_⟩
    rcases ho g hg with e | e
    · cases e; exact Nat.le_refl _
    · simp at e; omega
theorem ownBlock_blkOf {w : World} {v : Value} {l : List Int} (h : OwnZ w v l) : ∀ g, blkOf v = some g → v.ownBlock = some g := by
  intro g hg
  rcases h.2 with ⟨rfl, _⟩ | ⟨g', cap, rfl, _⟩
  · cases hg
  · exact hg
/-- A new line at v. -/
def NewLn (b f x : Nat) (L : LV) (w : World) (v : Value) (w' : World) : Prop := ∃ l, v = .pointer (some ⟨l, 0, none⟩) ∧ LnM w' l b f x L ∧ w.heap.size ≤ l ∧ Frm (fun _ => False) w w'
set_option maxRecDepth 100000 in
set_option maxHeartbeats 2000000 in
theorem lnew_any (b f x : Nat) (D : DV) (q : Int) (v : Value) (cs : List Int) (w : World) (h : DevM w b f x D) (hq : Z64 q) (hv : Zs w v cs) (hz : ∀ z ∈ cs, Z64 z) (hcl : cs.length ≤ 1000000) (P : Nat → Prop := fun _ => True) (hP : ∀ g, w.heap.size ≤ g → P g := by intros; trivial) :
    Calls Tryz.prog 12 #[.pointer (some ⟨b, 0, none⟩), .int .i64 q, v] w fun e w' => ∃ v', e = .returned v' ∧ NewLn b f x (LV.new D q cs P) w v' w' := by
  have HB := Lib.hid (blocks_any b f x D w h)
  have hn : ((D.n : Int) == 0) = false := by rw [beq_eq_false_iff_ne]; have := h.ok.lo; omega
  have HC := Lib.hid (zclone_any v cs w hv hcl)
  have H := Lib.hid h
  have HL := Lib.hid (And.intro hcl hP)
  clear h hv hcl hP
  go_enter Tryz.func12, Tryz.ntmps12
  go_wp2_with fail
  refine HB.out.mono ?_
  rintro e w1 ⟨rfl, rfl⟩
  go_wp2_with fail
  refine HC.out.mono ?_
  rintro e w1 ⟨v', rfl, hv', g1, hg1⟩
  obtain ⟨a', cap', rfl, hc1, hc2⟩ := hv'.zs.slice
  have H1 := Lib.hid (And.intro hv' (And.intro g1 hg1))
  have hzz := Lib.hid (And.intro hq hz)
  clear hv' g1 hg1 hc1 hc2 hq hz
  go_wp2_with fail
  go_ret
  obtain ⟨hv', g1, hg1⟩ := H1.out
  have h0 := H.out.keepF g1
  have hlt := h0.lt
  have hlen := hzz.out.2
  have g2 : Frm (fun _ => False) w1 (w1.alloc (.cells #[.pointer (some ⟨w1.heap.size, 0, none⟩), .pointer (some ⟨b, 0, none⟩), .int .i64 q, .slice a' cs.length cap', .int .i64 0, .bool false] 80)) := (Frm.refl _ w1).alloc _
  refine ⟨_, rfl, w1.heap.size, rfl, ⟨_, Blk.alloc w1 80 #[.pointer (some ⟨w1.heap.size, 0, none⟩), .pointer (some ⟨b, 0, none⟩), .int .i64 q, .slice a' cs.length cap', .int .i64 0, .bool false], h0.keepF g2, by omega, by omega, by omega, fun _ => hv'.zs.keepF g2, fun _ => .inr fun g hg => ?_, ⟨hzz.out.1, hzz.out.2, HL.out.1⟩⟩, g1.size, g1.trans g2⟩
  have ho := ownBlock_blkOf hv' g hg
  have h1 := hg1 g ho
  have h2 := Row.blk hv' g ho
  have h3 := H.out.lt
  exact ⟨by omega, by omega, by omega, HL.out.2 g h1⟩
end Go.Proofs.YtdhnidmeeocajaaGreat
end
