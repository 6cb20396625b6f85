/- What Kept answers: the versions that are kept, in order. No condition but that there are at most a million versions. -/
import Derived.Test.YtbmlfhiffooilaaKpG
import Derived.Lib.AppendZeros
namespace Go.Proofs.Ytbmlfhiffooilaa
open Go.RowKit Go.Shelf

/-- Versions of the call's own. -/
def OwnSt (w : World) (v : Value) (l : List StI) : Prop := Row w 2 v l.length (flat stc l)
theorem OwnSt.sl {w : World} {v : Value} {l : List StI} (h : OwnSt w v l) : StL w v l := Sl.ofRow h
theorem OwnSt.keep {X : Nat → Prop} {w w' : World} {v : Value} {l : List StI} (h : OwnSt w v l) (hf : Frm X w w') (hn : ∀ g, v.ownBlock = some g → ¬ X g) : OwnSt w' v l := Row.keep h hf hn
theorem OwnSt.nil_ (w : World) : OwnSt w (.slice none 0 0) [] := Row.nil_ w 2
theorem infoSt : (Try.prog.info? 24).map (fun i => (i.zero, i.size, i.bytes)) = some (some (.agg #[.int .u32 0, .int .u32 0]), 2, 8) := by kernel_rfl
/-- Versions are appended. -/
theorem append_sts (w : World) (v x : Value) (l m : List StI) (h : OwnSt w v l) (hs : StL w x m) (hb : l.length + m.length ≤ 1000001) :
    ∃ v' w', (Builtin.append_ #[38, 38] 38 #[v, x]).run Try.prog w = .ok v' w' ∧ OwnSt w' v' (l ++ m) ∧ w.grownBy w' v.ownBlock ∧ (∀ g, v'.ownBlock = some g → v.ownBlock = some g ∨ w.heap.size ≤ g) := by
  obtain ⟨i0, hi, hz0, hz1, hz2⟩ := info_parts infoSt
  obtain ⟨v', w', h1, h2, h3, h4⟩ := run_append_row w 38 38 38 24 i0 (.agg #[.int .u32 0, .int .u32 0]) 2 8 Try.underlying38 hi hz0 hz1 hz2 rfl h x m.length (flat stc m)
    (Sl.src hs Try.underlying38 (flat_one stc stc_one m)) (by unfold maxLen; omega) (by omega)
  exact ⟨v', w', h1, by unfold OwnSt; rw [List.length_append, flat_append]; exact h2, h3, h4⟩
theorem StL.one (w : World) (s : StI) : StL (w.alloc (.cells (stv s) 24)) (.slice (some ⟨w.heap.size, 0, none⟩) 1 1) [s] := Sl.built stc stc_len w 24 s (stv s) rfl
/-- A call's answer: these versions, in memory of its own. -/
def StTo (L : List StI) (w : World) (e : Ending) (w' : World) : Prop := ∃ v, e = .returned v ∧ OwnSt w' v L ∧ (∀ g, v.ownBlock = some g → w.heap.size ≤ g) ∧ Frm (fun _ => False) w w'
theorem bls_cell {w : World} {b : Nat} {L : List Bool} (h : Blk w b 4 (bls L)) (i : Nat) (hi : i < L.length) : w.cell? ⟨b, i, none⟩ = some (.bool L[i]) := h.cell i (bls_at L i hi)
set_option maxRecDepth 100000 in
set_option maxHeartbeats 8000000 in
theorem kept_any (k ag now : Nat) (qt : Int) (v : Value) (l : List StI) (w : World) (h : StL w v l) (hb : l.length ≤ 1000000) (hnow : now ≤ 4294967295) :
    Calls Try.prog 19 #[.agg (pv k ag qt), v, .int .u32 (now : Int)] w (StTo (kept9 k ag l now) w) := by
  obtain ⟨a, cap, rfl, hc1, hc2⟩ := h.slice
  unfold maxLen at hc2
  have g0 : Frm (fun _ => False) w (w.alloc (.cells (pv k ag qt) 27)) := (Frm.refl _ w).alloc _
  have b0 : Blk (w.alloc (.cells (pv k ag qt) 27)) w.heap.size 27 (pv k ag qt) := Blk.alloc w _ _
  have c0 := b0.cell 0 rfl
  have c1 := b0.cell 1 rfl
  have c2 := b0.cell 2 rfl
  have HK := Lib.hid (keep_any k ag now qt _ l _ (h.keepF g0) hb hnow)
  have HG := Lib.hid g0
  have HL := Lib.hid h
  clear h g0 b0
  go_enter Try.func19, Try.ntmps19
  go_wp2_with fail
  refine HK.out.mono ?_
  rintro e w2 ⟨b, rfl, hb1, hb2, g2⟩
  have hkl : (keep9 k ag l now).length = l.length := by simp [keep9]
  rw [hkl]
  have HG2 := Lib.hid (HG.out.trans g2)
  have HB2 := Lib.hid hb2
  clear c0 c1 c2 HK HG g2 hb2 hb1
  go_wp2_with fail
  go_loopw [7, 15] (fun u i wr => ∃ j : Nat, j ≤ l.length ∧ i = .int .i64 j ∧ OwnSt wr u ((l.take j).filter (one9 k ag l now)) ∧ (∀ g, u.ownBlock = some g → w2.heap.size ≤ g) ∧ Frm (fun _ => False) w2 wr) (fun _ i _ => l.length - (intOf i).toNat)
  case atStart => exact ⟨0, Nat.zero_le _, rfl, OwnSt.nil_ _, fun g e => (by cases e), Frm.refl _ _⟩
  case round =>
    obtain ⟨j, hj, rfl, hO, hN, hF⟩ := hrel
    by_cases hlt : j < l.length
    · have hji : (j : Int) < (l.length : Int) := by omega
      have hj0 : (0 : Int) ≤ (j : Int) := by omega
      obtain ⟨g, off, rfl, e0, e1⟩ := (HL.out.keepF (HG2.out.trans hF)).elem j hlt
      obtain ⟨s, hs⟩ : ∃ s, l[j] = s := ⟨_, rfl⟩
      have HS := Lib.hid hs
      rw [hs] at e0 e1
      clear hs
      have cb := bls_cell (HB2.out.keep hF (fun h => h)) j (by rw [hkl]; exact hlt)
      have hkj : (keep9 k ag l now)[j]'(by rw [hkl]; exact hlt) = one9 k ag l now s := by simp [keep9, HS.out]
      rw [hkj] at cb
      have htk : (l.take (j + 1)).filter (one9 k ag l now) = (l.take j).filter (one9 k ag l now) ++ (if one9 k ag l now s = true then [s] else []) := by
        rw [List.take_succ_eq_append_getElem hlt, List.filter_append, HS.out]
        cases hc : one9 k ag l now s <;> simp [hc]
      clear hkj
      cases hone : one9 k ag l now s with
      | true =>
        rw [hone] at cb htk
        rw [if_pos rfl] at htk
        have HT := Lib.hid htk
        have g3 : Frm (fun _ => False) wr (wr.alloc (.cells (stv s) 24)) := (Frm.refl _ wr).alloc _
        obtain ⟨a4, c4, rfl, _, _⟩ := hO.sl.slice
        obtain ⟨v6, w6, hrun, hrow, hgr, hnew⟩ := append_sts _ _ _ _ [s] (hO.keep g3 (fun _ _ h => h)) (StL.one wr s) (by
          have h1 := List.length_filter_le (one9 k ag l now) (l.take j)
          have h2 := List.length_take_le j l
          have h3 : ([s] : List StI).length = 1 := rfl
          omega)
        have HT6 := Lib.hid (show ∀ g, v6.ownBlock = some g → w2.heap.size ≤ g from fun g e => (hnew g e).elim (fun e => hN g e) (fun e => by have := g3.size; have := hF.size; omega))
        have HF6 := Lib.hid (show Frm (fun _ => False) w2 w6 from (hF.trans g3).grown hgr (fun k hk e => by have := hN k e; omega))
        have HO6 := Lib.hid hrow
        have Hrun := Lib.hid hrun
        clear hO hN hF g3 hrun hrow hgr hnew htk hone
        go_wp2_with (at_builtin; refine Lib.wpList_append_run _ rfl _ _ _ _ rfl _ _ rfl rfl _ _ Hrun.out ?_)
        go_roundw
        case rel => exact ⟨j + 1, by omega, by go_num, by rw [HT.out]; exact HO6.out, HT6.out, HF6.out⟩
        case measure => simp [intOf]; omega
      | false =>
        rw [hone] at cb htk
        rw [if_neg (by decide), List.append_nil] at htk
        have HT := Lib.hid htk
        have HO := Lib.hid hO
        have HN := Lib.hid hN
        have HF := Lib.hid hF
        clear hO hN hF htk hone
        go_wp2_with fail
        go_roundw
        case rel => exact ⟨j + 1, by omega, by go_num, by rw [HT.out]; exact HO.out, HN.out, HF.out⟩
        case measure => simp [intOf]; omega
    · obtain rfl : j = l.length := by omega
      rw [List.take_length] at hO
      go_wp2_with fail
      go_ret
      exact ⟨u7, rfl, hO, fun g e => Nat.le_trans HG2.out.size (hN g e), HG2.out.trans hF⟩
end Go.Proofs.Ytbmlfhiffooilaa
