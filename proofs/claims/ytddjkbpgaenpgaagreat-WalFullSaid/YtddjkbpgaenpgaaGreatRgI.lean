/- A strings.Builder in memory: WriteString, String, Reset, and which blocks they change. No condition. -/
import Derived.Test.YtddjkbpgaenpgaaGreatRgH
import Derived.Lib.Builder
import Derived.Lib.UnsafeStr
import Derived.Deep.DeepCutAuto
namespace Go.Proofs.YtddjkbpgaenpgaaGreat
open Go.RowKit Go.Shelf

theorem row_of_owns {w : World} {B n : Nat} {e : TypeId} {v : Value} {xs : List Value} (h : w.ownsRow B e 1 v n xs) : Row w 1 v n xs := by
  refine ⟨h.1, ?_⟩
  rcases h.2 with ⟨h1, h2⟩ | ⟨g, cap, cur, rfl, _, hb, hn, hm, hs, ht⟩
  · exact .inl ⟨h1, h2⟩
  · have hB : Blk w g e cur := hb
    refine .inr ⟨g, cap, rfl, hn, hm, ⟨_, hb, rfl⟩, fun j hj => ?_, fun j hj => ⟨?_, hB.free j⟩⟩
    · have hj2 : j < cur.size := by omega
      rw [hB.cell j (v := cur[j]) (by simp [hj2]), ← ht, List.getElem?_take, if_pos hj]
      simp [hj2]
    · have hj2 : j < cur.size := by omega
      rw [hB.cell j (v := cur[j]) (by simp [hj2])]
      rfl
/-- The builder at block b: its buffer is v, it holds s. -/
structure Bd (w : World) (b : Nat) (v : Value) (s : List UInt8) : Prop where
  blk : ∃ p, Blk w b 121 #[p, v] ∧ (p = .pointer none ∨ p = .pointer (some ⟨b, 0, none⟩))
  own : w.ownsRow 0 5 1 v s.length (u8s s)
  ne : v.ownBlock ≠ some b
/-- The blocks of a builder. -/
def BdX (b : Nat) (v : Value) (k : Nat) : Prop := k = b ∨ v.ownBlock = some k
section
variable {w w' : World} {b : Nat} {v : Value} {s : List UInt8}
theorem Bd.lt (h : Bd w b v s) : b < w.heap.size := by
  obtain ⟨p, hb, _⟩ := h.blk
  exact hb.lt
theorem Bd.lt2 (h : Bd w b v s) : ∀ k, BdX b v k → k < w.heap.size := by
  rintro k (rfl | e)
  · exact h.lt
  · exact (h.own.lt k e).2
theorem Bd.keep {X : Nat → Prop} (h : Bd w b v s) (hf : Frm X w w') (hn : ∀ k, BdX b v k → ¬ X k) : Bd w' b v s := by
  obtain ⟨p, hb, hp⟩ := h.blk
  refine ⟨⟨p, hb.keep hf (hn b (.inl rfl)), hp⟩, ?_, h.ne⟩
  refine ⟨h.own.1, ?_⟩
  rcases h.own.2 with h1 | ⟨g, cap, cur, rfl, h2, h3, h4⟩
  · exact .inl h1
  · exact .inr ⟨g, cap, cur, rfl, h2, (hf.block g (h.own.lt g rfl).2 (hn g (.inr rfl))).trans h3, h4⟩
theorem Bd.zero (h : Blk w b 121 #[.pointer none, .slice none 0 0]) : Bd w b (.slice none 0 0) [] := ⟨⟨_, h, .inl rfl⟩, World.ownsRow_nil _ _ _ _, fun e => by cases e⟩
end
theorem info_builder : ∃ j, Tryz.prog.info? 121 = some j ∧ j.size = 2 := by
  have h : (Tryz.prog.info? 121).map (·.size) = some 2 := by kernel_rfl
  obtain ⟨j, h1, h2⟩ := Option.map_eq_some_iff.1 h
  exact ⟨j, h1, h2⟩
set_option maxRecDepth 100000 in
set_option maxHeartbeats 1000000 in
theorem bcopy_used (b : Nat) (w : World) (h0 : w.cell? ⟨b, 0, none⟩ = some (.pointer (some ⟨b, 0, none⟩))) :
    Calls Tryz.prog 122 #[.pointer (some ⟨b, 0, none⟩)] w fun e w' => e = .returned (.tuple #[]) ∧ w' = w := by
  obtain ⟨j, hj, _⟩ := info_builder
  go_enter Tryz.func122, Tryz.ntmps122
  go_wp2
  rw [Lib.run_neq_ptr_same w _ Tryz.underlying119 hj]
  go_wp2
  go_end0
  exact ⟨rfl, rfl⟩
set_option maxRecDepth 100000 in
set_option maxHeartbeats 1000000 in
theorem bcopy_fresh (b : Nat) (w : World) (v : Value) (hb : Blk w b 121 #[.pointer none, v]) :
    Calls Tryz.prog 122 #[.pointer (some ⟨b, 0, none⟩)] w fun e w' => e = .returned (.tuple #[]) ∧ w' = w.setCell ⟨b, 0, none⟩ (.pointer (some ⟨b, 0, none⟩)) := by
  obtain ⟨j, hj, hjs⟩ := info_builder
  have h0 := hb.cell 0 rfl
  have hfz := hb.free 0
  have hsh : w.shape? b = some (121, 2) := by
    unfold Blk at hb
    simp [World.shape?, hb]
  have hlies : liesAt Tryz.prog Tryz.prog.depth 121 (2 / Tryz.prog.cellsOf 121) 0 121 1 = true := by kernel_rfl
  clear hb
  go_enter Tryz.func122, Tryz.ntmps122
  go_wp2
  rw [Lib.run_to_unsafe w ⟨b, 0, none⟩ Tryz.underlying119 Tryz.underlying195 hj (by rw [hjs]; decide) hsh (Nat.zero_lt_succ 1)]
  simp only [Result.andThen]
  rw [Oper.upon_value]
  go_wp2
  rw [run_callFunc_extern Tryz.func154 (by kernel_rfl) (by kernel_rfl) (by kernel_rfl) (e := Extern.AbiNoEscape.same) (by kernel_rfl)]
  rw [Lib.run_noEscape]
  simp only [Result.andThen]
  rw [Oper.upon_value]
  go_wp2
  rw [Lib.run_from_unsafe w ⟨b, 0, none⟩ Tryz.underlying195 Tryz.underlying119 hj hsh hlies]
  simp only [Result.andThen]
  rw [Oper.upon_value]
  go_wp2
  go_end0
  exact ⟨rfl, rfl⟩
theorem Bd.copied {w : World} {b : Nat} {v : Value} {s : List UInt8} (h : Bd w b v s) :
    Calls Tryz.prog 122 #[.pointer (some ⟨b, 0, none⟩)] w fun e w' => e = .returned (.tuple #[]) ∧ (Blk w' b 121 #[.pointer (some ⟨b, 0, none⟩), v] ∧ Bd w' b v s) ∧ Frm (· = b) w w' := by
  obtain ⟨p, hb, hp⟩ := h.blk
  rcases hp with rfl | rfl
  · refine (bcopy_fresh b w v hb).mono ?_
    rintro e w' ⟨rfl, rfl⟩
    have g : Frm (· = b) w (w.setCell ⟨b, 0, none⟩ (.pointer (some ⟨b, 0, none⟩))) := (Frm.refl (· = b) w).setCell (fun _ => rfl) _
    have hb' := hb.set 0 (.pointer (some ⟨b, 0, none⟩))
    refine ⟨rfl, ⟨hb', ⟨_, hb', .inr rfl⟩, ⟨h.own.1, ?_⟩, h.ne⟩, g⟩
    rcases h.own.2 with h1 | ⟨g', cap, cur, rfl, h2, h3, h4⟩
    · exact .inl h1
    · exact .inr ⟨g', cap, cur, rfl, h2, (g.block g' (h.own.lt g' rfl).2 (fun e => h.ne (by rw [← e]; rfl))).trans h3, h4⟩
  · refine (bcopy_used b w (hb.cell 0 rfl)).mono ?_
    rintro e w' ⟨rfl, rfl⟩
    exact ⟨rfl, ⟨hb, h⟩, Frm.refl _ _⟩
/-- An append of a string to the buffer. -/
theorem run_append_bd {w : World} {v : Value} {s : List UInt8} (ho : w.ownsRow 0 5 1 v s.length (u8s s)) (t : List UInt8) (hl : s.length + t.length ≤ 100000000) :
    ∃ v' w', (Builtin.append_ #[99, 9] 99 #[v, .string (bs t)]).run Tryz.prog w = .ok v' w' ∧ w'.ownsRow 0 5 1 v' (s ++ t).length (u8s (s ++ t)) ∧ w.grownBy w' v.ownBlock ∧ ∀ g, v'.ownBlock = some g → v.ownBlock = some g ∨ w.heap.size ≤ g := by
  obtain ⟨i0, hi, hz0, hz1, hz2⟩ := info_parts Tryz.info5
  have hsz : (bs t).size = t.length := rfl
  obtain ⟨v1, w1, r1, h1, h2, _⟩ := Lib.run_append_own_string (P := Tryz.prog) w 0 99 9 99 5 i0 Tryz.underlying99 Tryz.underlying9 hi hz0 hz1 hz2 v s.length (u8s s) ho (bs t) (by rw [hsz]; unfold maxLen; omega) (by rw [hsz]; omega) (Nat.zero_le _)
  obtain ⟨v2, w2, r2, _, _, h3⟩ := run_append_row w 99 9 99 5 i0 (.int .u8 0) 1 1 Tryz.underlying99 hi hz0 hz1 hz2 rfl (row_of_owns ho) (.string (bs t)) (bs t).size (byteCells (bs t)) (Src.ofString _ Tryz.underlying9 (bs t)) (by rw [hsz]; unfold maxLen; omega) (by rw [hsz]; omega)
  have e := r1.symm.trans r2
  cases e
  refine ⟨v1, w1, r1, ?_, h2, h3⟩
  rw [List.length_append, u8s_append]
  exact h1
set_option maxRecDepth 100000 in
set_option maxHeartbeats 2000000 in
theorem bwrite_any (b : Nat) (v : Value) (s t : List UInt8) (w : World) (h : Bd w b v s) (hl : s.length + t.length ≤ 100000000) :
    Calls Tryz.prog 76 #[.pointer (some ⟨b, 0, none⟩), .string (bs t)] w fun e w' => e = .returned (.tuple #[.int .i64 (t.length : Nat), .nilIface]) ∧ ∃ v', Bd w' b v' (s ++ t) ∧ Frm (BdX b v) w w' ∧ ∀ g, v'.ownBlock = some g → v.ownBlock = some g ∨ w.heap.size ≤ g := by
  have HC := Lib.hid h.copied
  have HL := Lib.hid hl
  have HLT := Lib.hid h.lt
  have hsz : (bs t).size = t.length := rfl
  clear h hl
  go_enter Tryz.func76, Tryz.ntmps76
  go_wp2_with fail
  refine HC.out.mono ?_
  rintro e w1 ⟨rfl, ⟨hb, h1⟩, g1⟩
  obtain ⟨v', w2, hrun, hown, hgrow, hnew⟩ := run_append_bd h1.own t HL.out
  have Hrun := Lib.hid hrun
  have hb2 := hb.beside hgrow h1.ne
  have hblt := hb.lt
  have hne2 : v'.ownBlock ≠ some b := fun e => by
    rcases hnew b e with e | e
    · exact h1.ne e
    · omega
  obtain ⟨ao, n', cap, rfl⟩ : ∃ ao n' cap, v' = .slice ao n' cap := by
    rcases hown.2 with ⟨hv, _⟩ | ⟨g, cap, cur, hv, _⟩
    · exact ⟨_, _, _, hv⟩
    · exact ⟨_, _, _, hv⟩
  obtain ⟨a0, n0, cap0, rfl⟩ : ∃ ao n' cap, v = .slice ao n' cap := by
    rcases h1.own.2 with ⟨hv, _⟩ | ⟨g, cap, cur, hv, _⟩
    · exact ⟨_, _, _, hv⟩
    · exact ⟨_, _, _, hv⟩
  have c1 := hb.cell 1 rfl
  have d1 := hb2.cell 1 rfl
  have f1 := hb2.free 1
  have gF : Frm (BdX b (.slice a0 n0 cap0)) w w2 := ((g1.mono (fun _ _ h => .inl h)).grown hgrow (fun k _ e => .inr e))
  have HB := Lib.hid (And.intro hb2 (And.intro hown (And.intro hne2 (And.intro gF (And.intro hnew g1.size)))))
  clear hb hb2 hown hne2 gF hnew h1 g1 hrun hgrow hblt HC
  go_wp2_with (first | (at_builtin; refine Lib.wpList_append_run _ rfl _ _ _ _ rfl _ _ rfl rfl _ _ Hrun.out ?_) | fail)
  go_ret2
  obtain ⟨hb2, hown, hne2, gF, hnew, gs⟩ := HB.out
  have hb3 := hb2.set 1 (.slice ao n' cap)
  have g3 : Frm (· = b) w2 (w2.setCell ⟨b, 1, none⟩ (.slice ao n' cap)) := (Frm.refl (· = b) w2).setCell (fun _ => rfl) _
  refine ⟨rfl, _, ⟨⟨_, hb3, .inr rfl⟩, ⟨hown.1, ?_⟩, hne2⟩, gF.next g3 (fun k _ e => .inl e), fun g hg => (hnew g hg).imp id fun e => by omega⟩
  rcases hown.2 with h1 | ⟨g', cap', cur, e, h2, h3, h4⟩
  · exact .inl h1
  · refine .inr ⟨g', cap', cur, e, h2, (g3.block g' (hown.lt g' (by rw [e]; rfl)).2 (fun e' => hne2 (by rw [e, ← e']; rfl))).trans h3, h4⟩
end Go.Proofs.YtddjkbpgaenpgaaGreat

