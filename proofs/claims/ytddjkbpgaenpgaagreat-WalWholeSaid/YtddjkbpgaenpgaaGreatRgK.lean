/- A strings.Builder in memory: WriteString, String, Reset, and which blocks they change. No condition. -/
import Derived.Test.YtddjkbpgaenpgaaGreatRgH
import Derived.Lib.Builder
import Derived.Lib.UnsafeStr
import Derived.Deep.DeepCutAuto
import Derived.Shelf.RegionOpenPlain
import Derived.Test.YtddjkbpgaenpgaaGreatDvS
section
namespace Go.Proofs.YtddjkbpgaenpgaaGreat
open Go.RowKit Go.Shelf

theorem row_of_owns {w : World} {B n : Nat} {e : TypeId} {v : Value} {xs : List Value} (h : w.ownsRow B e 1 v n xs) : Row w 1 v n xs := by
  refine ⟨h.1, ?_⟩
  rcases h.2 with ⟨h1, h2⟩ | ⟨g, cap, cur, rfl, _, hb, hn, hm, hs, ht⟩
  · exact .inl ⟨h1, h2⟩
  · have hB : Blk w g e cur := hb
    refine .inr ⟨g, cap, rfl, hn, hm, ⟨_, hb, rfl⟩, fun j hj => ?_, fun j hj => ⟨?_, hB.free j⟩⟩
    · have hj2 : j < cur.size := by omega
      rw [hB.cell j (v := cur[j]) (by simp [hj2]), ← ht, List.getElem?_take, if_pos hj]
      simp [hj2]
    · have hj2 : j < cur.size := by omega
      rw [hB.cell j (v := cur[j]) (by simp [hj2])]
      rfl
/-- The builder at block b: its buffer is v, it holds s. -/
structure Bd (w : World) (b : Nat) (v : Value) (s : List UInt8) : Prop where
  blk : ∃ p, Blk w b 121 #[p, v] ∧ (p = .pointer none ∨ p = .pointer (some ⟨b, 0, none⟩))
  own : w.ownsRow 0 5 1 v s.length (u8s s)
  ne : v.ownBlock ≠ some b
/-- The blocks of a builder. -/
def BdX (b : Nat) (v : Value) (k : Nat) : Prop := k = b ∨ v.ownBlock = some k
section
variable {w w' : World} {b : Nat} {v : Value} {s : List UInt8}
theorem Bd.lt (h : Bd w b v s) : b < w.heap.size := by
  obtain ⟨p, hb, _⟩ := h.blk
  exact hb.lt
theorem Bd.lt2 (h : Bd w b v s) : ∀ k, BdX b v k → k < w.heap.size := by
  rintro k (rfl | e)
  · exact h.lt
  · exact (h.own.lt k e).2
theorem Bd.keep {X : Nat → Prop} (h : Bd w b v s) (hf : Frm X w w') (hn : ∀ k, BdX b v k → ¬ X k) : Bd w' b v s := by
  obtain ⟨p, hb, hp⟩ := h.blk
  refine ⟨⟨p, hb.keep hf (hn b (.inl rfl)), hp⟩, ?_, h.ne⟩
  refine ⟨h.own.1, ?_⟩
  rcases h.own.2 with h1 | ⟨g, cap, cur, rfl, h2, h3, h4⟩
  · exact .inl h1
  · exact .inr ⟨g, cap, cur, rfl, h2, (hf.block g (h.own.lt g rfl).2 (hn g (.inr rfl))).trans h3, h4⟩
theorem Bd.zero (h : Blk w b 121 #[.pointer none, .slice none 0 0]) : Bd w b (.slice none 0 0) [] := ⟨⟨_, h, .inl rfl⟩, World.ownsRow_nil _ _ _ _, fun e => by cases e⟩
end
theorem info_builder : ∃ j, Tryz.prog.info? 121 = some j ∧ j.size = 2 := by
  have h : (Tryz.prog.info? 121).map (·.size) = some 2 := by kernel_rfl
  obtain ⟨j, h1, h2⟩ := Option.map_eq_some_iff.1 h
  exact ⟨j, h1, h2⟩
set_option maxRecDepth 100000 in
set_option maxHeartbeats 1000000 in
theorem bcopy_used (b : Nat) (w : World) (h0 : w.cell? ⟨b, 0, none⟩ = some (.pointer (some ⟨b, 0, none⟩))) :
    Calls Tryz.prog 122 #[.pointer (some ⟨b, 0, none⟩)] w fun e w' => e = .returned (.tuple #[]) ∧ w' = w := by
  obtain ⟨j, hj, _⟩ := info_builder
  go_enter Tryz.func122, Tryz.ntmps122
  go_wp2
  rw [Lib.run_neq_ptr_same w _ Tryz.underlying119 hj]
  go_wp2
  go_end0
  exact ⟨rfl, rfl⟩
set_option maxRecDepth 100000 in
set_option maxHeartbeats 1000000 in
theorem bcopy_fresh (b : Nat) (w : World) (v : Value) (hb : Blk w b 121 #[.pointer none, v]) :
    Calls Tryz.prog 122 #[.pointer (some ⟨b, 0, none⟩)] w fun e w' => e = .returned (.tuple #[]) ∧ w' = w.setCell ⟨b, 0, none⟩ (.pointer (some ⟨b, 0, none⟩)) := by
  obtain ⟨j, hj, hjs⟩ := info_builder
  have h0 := hb.cell 0 rfl
  have hfz := hb.free 0
  have hsh : w.shape? b = some (121, 2) := by
    unfold Blk at hb
    simp [World.shape?, hb]
  have hlies : liesAt Tryz.prog Tryz.prog.depth 121 (2 / Tryz.prog.cellsOf 121) 0 121 1 = true := by kernel_rfl
  clear hb
  go_enter Tryz.func122, Tryz.ntmps122
  go_wp2
  rw [Lib.run_to_unsafe w ⟨b, 0, none⟩ Tryz.underlying119 Tryz.underlying195 hj (by rw [hjs]; decide) hsh (Nat.zero_lt_succ 1)]
  simp only [Result.andThen]
  rw [Oper.upon_value]
  go_wp2
  rw [run_callFunc_extern Tryz.func154 (by kernel_rfl) (by kernel_rfl) (by kernel_rfl) (e := Extern.AbiNoEscape.same) (by kernel_rfl)]
  rw [Lib.run_noEscape]
  simp only [Result.andThen]
  rw [Oper.upon_value]
  go_wp2
  rw [Lib.run_from_unsafe w ⟨b, 0, none⟩ Tryz.underlying195 Tryz.underlying119 hj hsh hlies]
  simp only [Result.andThen]
  rw [Oper.upon_value]
  go_wp2
  go_end0
  exact ⟨rfl, rfl⟩
theorem Bd.copied {w : World} {b : Nat} {v : Value} {s : List UInt8} (h : Bd w b v s) :
    Calls Tryz.prog 122 #[.pointer (some ⟨b, 0, none⟩)] w fun e w' => e = .returned (.tuple #[]) ∧ (Blk w' b 121 #[.pointer (some ⟨b, 0, none⟩), v] ∧ Bd w' b v s) ∧ Frm (· = b) w w' := by
  obtain ⟨p, hb, hp⟩ := h.blk
  rcases hp with rfl | rfl
  · refine (bcopy_fresh b w v hb).mono ?_
    rintro e w' ⟨rfl, rfl⟩
    have g : Frm (· = b) w (w.setCell ⟨b, 0, none⟩ (.pointer (some ⟨b, 0, none⟩))) := (Frm.refl (· = b) w).setCell (fun _ => rfl) _
    have hb' := hb.set 0 (.pointer (some ⟨b, 0, none⟩))
    refine ⟨rfl, ⟨hb', ⟨_, hb', .inr rfl⟩, ⟨h.own.1, ?_⟩, h.ne⟩, g⟩
    rcases h.own.2 with h1 | ⟨g', cap, cur, rfl, h2, h3, h4⟩
    · exact .inl h1
    · exact .inr ⟨g', cap, cur, rfl, h2, (g.block g' (h.own.lt g' rfl).2 (fun e => h.ne (by rw [← e]; rfl))).trans h3, h4⟩
  · refine (bcopy_used b w (hb.cell 0 rfl)).mono ?_
    rintro e w' ⟨rfl, rfl⟩
    exact ⟨rfl, ⟨hb, h⟩, Frm.refl _ _⟩
/-- An append of a string to the buffer. -/
theorem run_append_bd {w : World} {v : Value} {s : List UInt8} (ho : w.ownsRow 0 5 1 v s.length (u8s s)) (t : List UInt8) (hl : s.length + t.length ≤ 100000000) :
    ∃ v' w', (Builtin.append_ #[99, 9] 99 #[v, .string (bs t)]).run Tryz.prog w = .ok v' w' ∧ w'.ownsRow 0 5 1 v' (s ++ t).length (u8s (s ++ t)) ∧ w.grownBy w' v.ownBlock ∧ ∀ g, v'.ownBlock = some g → v.ownBlock = some g ∨ w.heap.size ≤ g := by
  obtain ⟨i0, hi, hz0, hz1, hz2⟩ := info_parts Tryz.info5
  have hsz : (bs t).size = t.length := rfl
  obtain ⟨v1, w1, r1, h1, h2, _⟩ := Lib.run_append_own_string (P := Tryz.prog) w 0 99 9 99 5 i0 Tryz.underlying99 Tryz.underlying9 hi hz0 hz1 hz2 v s.length (u8s s) ho (bs t) (by rw [hsz]; unfold maxLen; omega) (by rw [hsz]; omega) (Nat.zero_le _)
  obtain ⟨v2, w2, r2, _, _, h3⟩ := run_append_row w 99 9 99 5 i0 (.int .u8 0) 1 1 Tryz.underlying99 hi hz0 hz1 hz2 rfl (row_of_owns ho) (.string (bs t)) (bs t).size (byteCells (bs t)) (Src.ofString _ Tryz.underlying9 (bs t)) (by rw [hsz]; unfold maxLen; omega) (by rw [hsz]; omega)
  have e := r1.symm.trans r2
  cases e
  refine ⟨v1, w1, r1, ?_, h2, h3⟩
  rw [List.length_append, u8s_append]
  exact h1
set_option maxRecDepth 100000 in
set_option maxHeartbeats 2000000 in
theorem bwrite_any (b : Nat) (v : Value) (s t : List UInt8) (w : World) (h : Bd w b v s) (hl : s.length + t.length ≤ 100000000) :
    Calls Tryz.prog 76 #[.pointer (some ⟨b, 0, none⟩), .string (bs t)] w fun e w' => e = .returned (.tuple #[.int .i64 (t.length : Nat), .nilIface]) ∧ ∃ v', Bd w' b v' (s ++ t) ∧ Frm (BdX b v) w w' ∧ ∀ g, v'.ownBlock = some g → v.ownBlock = some g ∨ w.heap.size ≤ g := by
  have HC := Lib.hid h.copied
  have HL := Lib.hid hl
  have HLT := Lib.hid h.lt
  have hsz : (bs t).size = t.length := rfl
  clear h hl
  go_enter Tryz.func76, Tryz.ntmps76
  go_wp2_with fail
  refine HC.out.mono ?_
  rintro e w1 ⟨rfl, ⟨hb, h1⟩, g1⟩
  obtain ⟨v', w2, hrun, hown, hgrow, hnew⟩ := run_append_bd h1.own t HL.out
  have Hrun := Lib.hid hrun
  have hb2 := hb.beside hgrow h1.ne
  have hblt := hb.lt
  have hne2 : v'.ownBlock ≠ some b := fun e => by
    rcases hnew b e with e | e
    · exact h1.ne e
    · omega
  obtain ⟨ao, n', cap, rfl⟩ : ∃ ao n' cap, v' = .slice ao n' cap := by
    rcases hown.2 with ⟨hv, _⟩ | ⟨g, cap, cur, hv, _⟩
    · exact ⟨_, _, _, hv⟩
    · exact ⟨_, _, _, hv⟩
  obtain ⟨a0, n0, cap0, rfl⟩ : ∃ ao n' cap, v = .slice ao n' cap := by
    rcases h1.own.2 with ⟨hv, _⟩ | ⟨g, cap, cur, hv, _⟩
    · exact ⟨_, _, _, hv⟩
    · exact ⟨_, _, _, hv⟩
  have c1 := hb.cell 1 rfl
  have d1 := hb2.cell 1 rfl
  have f1 := hb2.free 1
  have gF : Frm (BdX b (.slice a0 n0 cap0)) w w2 := ((g1.mono (fun _ _ h => .inl h)).grown hgrow (fun k _ e => .inr e))
  have HB := Lib.hid (And.intro hb2 (And.intro hown (And.intro hne2 (And.intro gF (And.intro hnew g1.size)))))
  clear hb hb2 hown hne2 gF hnew h1 g1 hrun hgrow hblt HC
  go_wp2_with (first | (at_builtin; refine Lib.wpList_append_run _ rfl _ _ _ _ rfl _ _ rfl rfl _ _ Hrun.out ?_) | fail)
  go_ret2
  obtain ⟨hb2, hown, hne2, gF, hnew, gs⟩ := HB.out
  have hb3 := hb2.set 1 (.slice ao n' cap)
  have g3 : Frm (· = b) w2 (w2.setCell ⟨b, 1, none⟩ (.slice ao n' cap)) := (Frm.refl (· = b) w2).setCell (fun _ => rfl) _
  refine ⟨rfl, _, ⟨⟨_, hb3, .inr rfl⟩, ⟨hown.1, ?_⟩, hne2⟩, gF.next g3 (fun k _ e => .inl e), fun g hg => (hnew g hg).imp id fun e => by omega⟩
  rcases hown.2 with h1 | ⟨g', cap', cur, e, h2, h3, h4⟩
  · exact .inl h1
  · refine .inr ⟨g', cap', cur, e, h2, (g3.block g' (hown.lt g' (by rw [e]; rfl)).2 (fun e' => hne2 (by rw [e, ← e']; rfl))).trans h3, h4⟩
end Go.Proofs.YtddjkbpgaenpgaaGreat
end
section
namespace Go.Proofs.YtddjkbpgaenpgaaGreat
open Go.RowKit Go.Shelf

theorem Frm.freeze {X : Nat → Prop} {w w' : World} (h : Frm X w w') {p : Addr} (hp : X p.block) (n : Nat) : Frm X w (w'.freeze p n) := by
  unfold World.freeze
  split
  · exact h
  · refine h.trans ⟨rfl, rfl, rfl, by simp, fun k hk hn => ?_⟩
    simp only [Array.getElem?_modify]
    rw [if_neg (fun e => hn (by rw [← e]; exact hp))]
set_option maxRecDepth 100000 in
set_option maxHeartbeats 2000000 in
theorem bstring_full (b : Nat) (v : Value) (s : List UInt8) (w : World) (h : Bd w b v s) (h0 : s ≠ []) (hl : s.length ≤ 100000000) :
    Calls Tryz.prog 78 #[.pointer (some ⟨b, 0, none⟩)] w fun e w' => e = .returned (.string (bs s)) ∧ Frm (fun k => v.ownBlock = some k) w w' := by
  have hl0 : s.length ≠ 0 := by simpa using h0
  obtain ⟨p, hb, _⟩ := h.blk
  have hown := h.own
  obtain ⟨g, cap, cur, rfl, _, hg, hnc, hcm, hcs, htake⟩ : ∃ g cap cur, v = .slice (some ⟨g, 0, none⟩) s.length cap ∧ 0 ≤ g ∧ w.heap[g]? = some (.cells cur 5 (0, 0)) ∧ s.length ≤ cap ∧ cap ≤ maxLen ∧ cur.size = cap * 1 ∧ cur.toList.take (s.length * 1) = u8s s := by
    rcases hown.2 with ⟨_, hz⟩ | ⟨g, cap, cur, hv, r⟩
    · exact absurd hz hl0
    · exact ⟨g, cap, cur, hv, r⟩
  have c1 : w.drew.cell? ⟨b, 1, none⟩ = some (.slice (some ⟨g, 0, none⟩) s.length cap) := hb.drew.cell 1 rfl
  have hSD : (Builtin.unsafeSliceData_ #[99] 170 #[.slice (some ⟨g, 0, none⟩) s.length cap]).run Tryz.prog w.drew = .ok (.pointer (some ⟨g, 0, none⟩)) w.drew :=
    Lib.run_unsafeSliceData_row _ _ _ _ _ _ (by omega)
  have hUS : (Builtin.unsafeString_ #[170, 3] 9 #[.pointer (some ⟨g, 0, none⟩), .int .i64 s.length]).run Tryz.prog w.drew = .ok (.string ⟨s.toArray⟩) (w.drew.freeze ⟨g, 0, none⟩ s.length) := by
    refine Lib.run_unsafeString_row w.drew 170 3 9 5 Tryz.underlying170 (by kernel_rfl) g cur.size (by have hg' : w.drew.heap[g]? = some (.cells cur 5 (0, 0)) := hg; simp [World.shape?, hg']) s h0 (by omega) (by omega) ?_
    intro j x hx
    have := hown.cells (g := g) rfl j (.int .u8 x.toNat) (by simp [u8s, hx])
    exact this
  have hF : Frm (fun k => Value.ownBlock (.slice (some ⟨g, 0, none⟩) s.length cap) = some k) w (w.drew.freeze ⟨g, 0, none⟩ s.length) := Frm.freeze (p := ⟨g, 0, none⟩) (Frm.refl (fun k => Value.ownBlock (.slice (some ⟨g, 0, none⟩) s.length cap) = some k) w).drew rfl s.length
  clear h hb hown hg htake hcs hcm hnc h0 hl0
  have mixed : Tryz.prog.follows Departure.mixedOrders = true := by kernel_rfl
  go_enter Tryz.func78, Tryz.ntmps78
  go_wp2
  go_region_o
  all_goals (go_wp2; go_ret; exact ⟨rfl, hF⟩)
set_option maxRecDepth 100000 in
set_option maxHeartbeats 2000000 in
theorem bstring_none (b : Nat) (v : Value) (w : World) (h : Bd w b v []) :
    Calls Tryz.prog 78 #[.pointer (some ⟨b, 0, none⟩)] w fun e w' => e = .returned (.string (bs [])) ∧ Frm (fun k => v.ownBlock = some k) w w' := by
  obtain ⟨p, hb, _⟩ := h.blk
  have hUS : ∀ (W : World) (q : Option Addr), (Builtin.unsafeString_ #[170, 3] 9 #[.pointer q, .int .i64 0]).run Tryz.prog W = .ok (.string .empty) W := fun W q => Lib.run_unsafeString_none (w := W) _ _ _ q
  have hlt := h.lt
  rcases h.own.2 with ⟨rfl, _⟩ | ⟨g, cap, cur, rfl, _, hg, _, _, _, _⟩
  · have c1 : w.drew.cell? ⟨b, 1, none⟩ = some (.slice none 0 0) := hb.drew.cell 1 rfl
    have hSD : (Builtin.unsafeSliceData_ #[99] 170 #[.slice none 0 0]).run Tryz.prog w.drew = .ok (.pointer none) w.drew := rfl
    clear h hb
    have mixed : Tryz.prog.follows Departure.mixedOrders = true := by kernel_rfl
    go_enter Tryz.func78, Tryz.ntmps78
    go_wp2
    go_region_o
    all_goals (go_wp2; go_ret; exact ⟨rfl, (Frm.refl _ w).drew⟩)
  · by_cases hc0 : cap = 0
    · subst hc0
      have c1 : w.drew.cell? ⟨b, 1, none⟩ = some (.slice (some ⟨g, 0, none⟩) 0 0) := hb.drew.cell 1 rfl
      have hSD : (Builtin.unsafeSliceData_ #[99] 170 #[.slice (some ⟨g, 0, none⟩) 0 0]).run Tryz.prog w.drew = .ok (.pointer (some ⟨w.drew.heap.size, 0, none⟩)) (w.drew.alloc (.view ⟨g, 0, none⟩ 5)) :=
        Lib.run_unsafeSliceData_zero (w := w.drew) _ _ 5 Tryz.underlying170 ⟨g, 0, none⟩ 0 (5, cur.size) (by have hg' : w.drew.heap[g]? = some (.cells cur 5 (0, 0)) := hg; simp [World.shape?, hg'])
      have c2 : (w.drew.alloc (.view ⟨g, 0, none⟩ 5)).cell? ⟨b, 1, none⟩ = some (.slice (some ⟨g, 0, none⟩) 0 0) := (hb.drew.old _).cell 1 rfl
      have c3 : (w.alloc (.view ⟨g, 0, none⟩ 5)).drew.cell? ⟨b, 1, none⟩ = some (.slice (some ⟨g, 0, none⟩) 0 0) := c2
      have c0 : w.cell? ⟨b, 1, none⟩ = some (.slice (some ⟨g, 0, none⟩) 0 0) := c1
      clear h hb hg
      have mixed : Tryz.prog.follows Departure.mixedOrders = true := by kernel_rfl
      go_enter Tryz.func78, Tryz.ntmps78
      go_wp2
      go_region_o
      all_goals (go_wp2; go_ret; exact ⟨rfl, (Frm.refl _ w).drew.alloc _⟩)
    · have c1 : w.drew.cell? ⟨b, 1, none⟩ = some (.slice (some ⟨g, 0, none⟩) 0 cap) := hb.drew.cell 1 rfl
      have hSD : (Builtin.unsafeSliceData_ #[99] 170 #[.slice (some ⟨g, 0, none⟩) 0 cap]).run Tryz.prog w.drew = .ok (.pointer (some ⟨g, 0, none⟩)) w.drew :=
        Lib.run_unsafeSliceData_row _ _ _ _ _ _ hc0
      clear h hb hg hc0
      have mixed : Tryz.prog.follows Departure.mixedOrders = true := by kernel_rfl
      go_enter Tryz.func78, Tryz.ntmps78
      go_wp2
      go_region_o
      all_goals (go_wp2; go_ret; exact ⟨rfl, (Frm.refl _ w).drew⟩)
theorem bstring_any (b : Nat) (v : Value) (s : List UInt8) (w : World) (h : Bd w b v s) (hl : s.length ≤ 100000000) :
    Calls Tryz.prog 78 #[.pointer (some ⟨b, 0, none⟩)] w fun e w' => e = .returned (.string (bs s)) ∧ Frm (fun k => v.ownBlock = some k) w w' := by
  cases s with
  | nil => exact bstring_none b v w h
  | cons x r => exact bstring_full b v (x :: r) w h (by simp) hl
set_option maxRecDepth 100000 in
set_option maxHeartbeats 2000000 in
theorem breset_any (b : Nat) (v p : Value) (w : World) (hb : Blk w b 121 #[p, v]) :
    Calls Tryz.prog 142 #[.pointer (some ⟨b, 0, none⟩)] w fun e w' => e = .returned (.tuple #[]) ∧ Bd w' b (.slice none 0 0) [] ∧ Frm (· = b) w w' := by
  have c0 := hb.cell 0 rfl
  have c1 := hb.cell 1 rfl
  have f0 := hb.free 0
  have f1 := hb.free 1
  have hb2 := (hb.set 0 (.pointer none)).set 1 (.slice none 0 0)
  have g2 : Frm (· = b) w ((w.setCell ⟨b, 0, none⟩ (.pointer none)).setCell ⟨b, 1, none⟩ (.slice none 0 0)) := ((Frm.refl (· = b) w).setCell (fun _ => rfl) _).setCell (fun _ => rfl) _
  have HB := Lib.hid (And.intro (Bd.zero hb2) g2)
  clear hb hb2 g2
  go_enter Tryz.func142, Tryz.ntmps142
  go_wp2_with fail
  go_end0
  exact ⟨rfl, HB.out⟩
end Go.Proofs.YtddjkbpgaenpgaaGreat
end
section
namespace Go.Proofs.YtddjkbpgaenpgaaGreat
open Go.RowKit Go.Shelf

theorem Tryz.info9r : (Tryz.prog.info? 9).map (fun i => (i.zero, i.size, i.bytes)) = some (some (.string ⟨#[]⟩), 1, 16) := by kernel_rfl
theorem rappend_strs (w : World) (v x : Value) (l m : List (List UInt8)) (h : OwnS w v l) (hs : Strs w x m) (hb : l.length + m.length ≤ 1000000) :
    ∃ v' w', (Builtin.append_ #[60, 60] 60 #[v, x]).run Tryz.prog w = .ok v' w' ∧ OwnS w' v' (l ++ m) ∧ w.grownBy w' v.ownBlock ∧ (∀ g, v'.ownBlock = some g → v.ownBlock = some g ∨ w.heap.size ≤ g) := by
  obtain ⟨i0, hi, hz0, hz1, hz2⟩ := info_parts Tryz.info9r
  obtain ⟨v', w', h1, h2, h3, h4⟩ := run_append_row w 60 60 60 9 i0 (.string ⟨#[]⟩) 1 16 Tryz.underlying60 hi hz0 hz1 hz2 rfl h x m.length (strs m)
    (Sl.src hs Tryz.underlying60 (strs_one m)) (by unfold maxLen; omega) (by omega)
  exact ⟨v', w', h1, by unfold OwnS; rw [List.length_append, strs_append]; exact h2, h3, h4⟩
theorem rstrs_one (w : World) (s : List UInt8) : Strs (w.alloc (.cells #[.string (bs s)] 9)) (.slice (some ⟨w.heap.size, 0, none⟩) 1 1) [s] := by
  refine ⟨rfl, _, 1, rfl, Nat.le_refl _, by decide, .inr ⟨_, 0, rfl, by simp, fun j hj => ?_⟩⟩
  obtain rfl : j = 0 := by simp at hj; omega
  exact (Blk.alloc w 9 #[.string (bs s)]).cell 0 rfl
/-- Texts in new memory. -/
structure NewL (w w' : World) (v : Value) (l : List (List UInt8)) : Prop where
  own : OwnS w' v l
  new : ∀ g, v.ownBlock = some g → w.heap.size ≤ g
  frm : Frm (fun _ => False) w w'
/-- How far whole is: the groups so far, what is held of the next one. -/
structure WhS (w0 wr : World) (b : Nat) (gv bv : Value) (gs : List (List UInt8)) (cur : List UInt8) : Prop where
  own : OwnS wr gv gs
  bd : Bd wr b bv cur
  gnew : ∀ g, gv.ownBlock = some g → w0.heap.size ≤ g
  bnew : ∀ k, BdX b bv k → w0.heap.size ≤ k
  apart : ∀ g, gv.ownBlock = some g → ¬ BdX b bv g
  frm : Frm (fun _ => False) w0 wr
section
variable {w0 w w' w'' : World} {b : Nat} {gv bv bv' gv' : Value} {gs gs' : List (List UInt8)} {cur cur' : List UInt8}
theorem WhS.keepF (h : WhS w0 w b gv bv gs cur) (g : Frm (fun _ => False) w w') : WhS w0 w' b gv bv gs cur :=
  ⟨h.own.keep g (fun _ _ h => h), h.bd.keep g (fun _ _ h => h), h.gnew, h.bnew, h.apart, h.frm.trans g⟩
/-- The builder wrote. -/
theorem WhS.wrote (h : WhS w0 w b gv bv gs cur) (hb : Bd w' b bv' cur') (g : Frm (BdX b bv) w w') (hn : ∀ k, bv'.ownBlock = some k → bv.ownBlock = some k ∨ w.heap.size ≤ k) : WhS w0 w' b gv bv' gs cur' := by
  have hs := h.frm.size
  have hx : ∀ k, BdX b bv' k → BdX b bv k ∨ w.heap.size ≤ k := fun k hk => by
    rcases hk with e | e
    · exact .inl (.inl e)
    · exact (hn k e).imp (fun e => .inr e) id
  refine ⟨h.own.keep g (fun k hk e => h.apart k hk e), hb, h.gnew, fun k hk => ?_, fun k hk e => ?_, h.frm.next g fun k hk e => by have := h.bnew k e; omega⟩
  · rcases hx k hk with e | e
    · exact h.bnew k e
    · omega
  · rcases hx k e with e | e
    · exact h.apart k hk e
    · have := Row.blk h.own k hk; omega
/-- The groups grew. -/
theorem WhS.grew (h : WhS w0 w b gv bv gs cur) (ho : OwnS w' gv' gs') (hg : w.grownBy w' gv.ownBlock) (hn : ∀ k, gv'.ownBlock = some k → gv.ownBlock = some k ∨ w.heap.size ≤ k) : WhS w0 w' b gv' bv gs' cur := by
  have hs := h.frm.size
  have g : Frm (fun k => gv.ownBlock = some k) w w' := (Frm.refl _ w).grown hg (fun _ _ e => e)
  refine ⟨ho, h.bd.keep g (fun k hk e => h.apart k e hk), fun k hk => ?_, h.bnew, fun k hk e => ?_, h.frm.next g fun k hk e => by have := h.gnew k e; omega⟩
  · rcases hn k hk with e | e
    · exact h.gnew k e
    · omega
  · rcases hn k hk with e' | e'
    · exact h.apart k e' e
    · have := h.bd.lt2 k e; omega
/-- The builder is let go, and another one stands in its place. -/
theorem WhS.reset (h : WhS w0 w b gv bv gs cur) (g1 : Frm (fun k => bv.ownBlock = some k) w w') : (∃ p, Blk w' b 121 #[p, bv]) ∧ OwnS w' gv gs ∧ Frm (fun _ => False) w0 w' := by
  obtain ⟨p, hb, _⟩ := h.bd.blk
  exact ⟨⟨p, hb.keep g1 h.bd.ne⟩, h.own.keep g1 (fun k hk e => h.apart k hk (.inr e)), h.frm.next g1 fun k hk e => by have := h.bnew k (.inr e); omega⟩
theorem WhS.ended {w0 w6 w7 w8 w9 w10 : World} {b : Nat} {gv bv gv' : Value} {gs gs' : List (List UInt8)} {cur : List UInt8} (h : WhS w0 w6 b gv bv gs cur) (g7 : Frm (fun k => bv.ownBlock = some k) w6 w7) (g8 : Frm (fun _ => False) w7 w8)
    (ho : OwnS w9 gv' gs') (hg : w8.grownBy w9 gv.ownBlock) (hn : ∀ k, gv'.ownBlock = some k → gv.ownBlock = some k ∨ w8.heap.size ≤ k) :
    (∃ p, Blk w9 b 121 #[p, bv]) ∧ (Bd w10 b (.slice none 0 0) [] → Frm (· = b) w9 w10 → WhS w0 w10 b gv' (.slice none 0 0) gs' []) := by
  obtain ⟨⟨p, hb7⟩, ho7, f7⟩ := h.reset g7
  have hgb : gv.ownBlock ≠ some b := fun e => h.apart b e (.inl rfl)
  have hb8 := hb7.keep g8 (fun h => h)
  have hs7 := f7.size
  have hs8 := g8.size
  have hblt := hb8.lt
  have f9 : Frm (fun _ => False) w0 w9 := (f7.trans g8).grown hg (fun k hk e => by have := h.gnew k e; omega)
  refine ⟨⟨p, hb8.beside hg hgb⟩, fun hb g => ?_⟩
  have hvb : ∀ k, gv'.ownBlock = some k → k ≠ b := fun k hk e => by
    subst e
    rcases hn k hk with e | e
    · exact hgb e
    · omega
  refine ⟨ho.keep g (fun k hk e => hvb k hk e), hb, fun k hk => ?_, fun k hk => ?_, fun k hk e => ?_, f9.next g fun k hk e => by subst e; have := h.bnew k (.inl rfl); omega⟩
  · rcases hn k hk with e | e
    · exact h.gnew k e
    · omega
  · rcases hk with rfl | e
    · exact h.bnew k (.inl rfl)
    · cases e
  · rcases e with e | e
    · exact hvb k hk e
    · cases e
end
end Go.Proofs.YtddjkbpgaenpgaaGreat
end
