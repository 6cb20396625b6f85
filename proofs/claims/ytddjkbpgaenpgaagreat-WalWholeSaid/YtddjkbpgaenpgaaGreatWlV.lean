/- What opened answers; lives, as they lie in the argument's memory; may they be gone through? No condition. -/
import Derived.Test.YtddjkbpgaenpgaaGreatDvActO
namespace Go.Proofs.YtddjkbpgaenpgaaGreat
open Go.RowKit Go.Shelf

set_option maxRecDepth 100000 in
set_option maxHeartbeats 8000000 in
theorem opened_any (z : Nat) (v : Value) (gs sure : List (List UInt8)) (may : Option (List (List UInt8))) (Z : Nat → Prop) (w : World) (h : StoM w z sure may Z) (hz : Z z) (ho : OwnS w v gs) (hv : ∀ k, v.ownBlock = some k → ¬ Z k) (hg : gs = sure ∨ may = some gs) :
    Calls Tryz.prog 42 #[.pointer (some ⟨z, 0, none⟩), v] w fun e w' => e = .returned (.bool true) ∧ StoM w' z gs none Z ∧ Frm (· = z) w w' := by
  obtain ⟨sv, mv, h1, h2, h3, h4⟩ := h
  obtain ⟨a, cap, hva, _, _⟩ := (OwnS.reads ho).slice
  obtain ⟨as_, caps, hsa, _, _⟩ := (OwnS.reads h2).slice
  have c0 := h1.cell 0 rfl
  have c1 := h1.cell 1 rfl
  have HSm := Lib.hid (same14_any v sv gs sure w (OwnS.reads ho) (OwnS.reads h2))
  -- what is left
  have HF : Hid (∀ W, Frm (fun _ => False) w W → StoM ((W.setCell ⟨z, 0, none⟩ v).setCell ⟨z, 1, none⟩ (.slice none 0 0)) z gs none Z ∧ Frm (· = z) w ((W.setCell ⟨z, 0, none⟩ v).setCell ⟨z, 1, none⟩ (.slice none 0 0))) := Lib.hid fun W gW => by
    have hb := ((h1.keep gW (fun h => h)).set 0 v).set 1 (.slice none 0 0)
    have gz : Frm (· = z) w ((W.setCell ⟨z, 0, none⟩ v).setCell ⟨z, 1, none⟩ (.slice none 0 0)) := ((gW.mono fun _ _ h => h.elim : Frm (· = z) w W).setCell (p := ⟨z, 0, none⟩) (fun _ => rfl) _).setCell (p := ⟨z, 1, none⟩) (fun _ => rfl) _
    exact ⟨⟨v, .slice none 0 0, hb, ho.keep gz (fun g hg e => hv g hg (e ▸ hz)), hv, rfl⟩, gz⟩
  have HB : Hid (∀ W, Frm (fun _ => False) w W → Blk W z 79 #[sv, mv]) := Lib.hid fun W gW => h1.keep gW (fun h => h)
  cases may with
  | none =>
    have hmv : mv = .slice none 0 0 := h4
    have hsg : gs = sure := hg.resolve_right (fun h => by cases h)
    rw [decide_eq_true hsg] at HSm
    subst hva hsa hmv
    clear h1 h2 h3 h4 ho hv hg hsg
    go_enter Tryz.func42, Tryz.ntmps42
    go_wp2_with fail
    refine HSm.out.mono ?_
    rintro e w1 ⟨rfl, g1⟩
    have hb1 := HB.out w1 g1
    have k0 := hb1.cell 0 rfl
    have k1 := hb1.cell 1 rfl
    have f0 := hb1.free 0
    have f1 := hb1.free 1
    have HF1 := Lib.hid (HF.out w1 g1)
    clear g1 hb1 HSm
    go_wp2_with fail
    refine wp_loop_rounds 1 ?_
    rw [rounds_succ]
    go_wp2_with fail
    go_ret
    exact ⟨rfl, HF1.out⟩
  | some l =>
    obtain ⟨b, o, c, u, hmv, hcc, hcc2, hbl, hbZ, hcell, hol, hou⟩ := h4
    obtain ⟨al, capl, hua, _, _⟩ := (OwnS.reads hol).slice
    have HSl := Lib.hid (fun (W : World) (gW : Frm (fun _ => False) w W) => same14_any v u gs l W (OwnS.reads (ho.keep gW (fun _ _ h => h))) (OwnS.reads (hol.keep gW (fun _ _ h => h))))
    have HBl := Lib.hid (And.intro hbl hcell)
    by_cases hsg : gs = sure
    · rw [decide_eq_true hsg] at HSm
      subst hva hsa hmv hua
      clear h1 h2 h3 hbl hbZ hcell hol hou ho hv hg hsg
      go_enter Tryz.func42, Tryz.ntmps42
      go_wp2_with fail
      refine HSm.out.mono ?_
      rintro e w1 ⟨rfl, g1⟩
      have hb1 := HB.out w1 g1
      have k0 := hb1.cell 0 rfl
      have k1 := hb1.cell 1 rfl
      have f0 := hb1.free 0
      have f1 := hb1.free 1
      have HF1 := Lib.hid (HF.out w1 g1)
      clear g1 hb1 HSm
      go_wp2_with fail
      refine wp_loop_rounds 2 ?_
      rw [rounds_succ]
      go_wp2_with fail
      rw [rounds_succ]
      go_wp2_with fail
      go_ret
      exact ⟨rfl, HF1.out⟩
    · have hsl : gs = l := by
        rcases hg with h | h
        · exact absurd h hsg
        · simpa using h.symm
      rw [decide_eq_false hsg] at HSm
      subst hva hsa hmv hua
      have HSl2 : Hid (∀ W, Frm (fun _ => False) w W → Calls Tryz.prog 97 #[.slice a gs.length cap, .slice al l.length capl] W fun e w' => e = .returned (.bool true) ∧ Frm (fun _ => False) W w') := Lib.hid fun W gW => by
        have := HSl.out W gW
        rwa [decide_eq_true hsl] at this
      clear h1 h2 h3 hbl hbZ hcell hol hou ho hv hg hsg hsl HSl
      go_enter Tryz.func42, Tryz.ntmps42
      go_wp2_with fail
      refine HSm.out.mono ?_
      rintro e w1 ⟨rfl, g1⟩
      have hb1 := HB.out w1 g1
      have k0 := hb1.cell 0 rfl
      have k1 := hb1.cell 1 rfl
      have kb := (World.cell?_of_block (a := ⟨b, o, none⟩) (g1.block b HBl.out.1 (fun h => h))).trans HBl.out.2
      have HS1 := Lib.hid (HSl2.out w1 g1)
      have G1 := Lib.hid g1
      clear g1 hb1 HSm HSl2
      go_wp2_with fail
      refine wp_loop_rounds 2 ?_
      rw [rounds_succ]
      go_wp2_with fail
      refine HS1.out.mono ?_
      rintro e w2 ⟨rfl, g2⟩
      have hb2 := HB.out w2 (G1.out.trans g2)
      have m0 := hb2.cell 0 rfl
      have m1 := hb2.cell 1 rfl
      have f0 := hb2.free 0
      have f1 := hb2.free 1
      have HF2 := Lib.hid (HF.out w2 (G1.out.trans g2))
      clear g2 hb2 k0 k1 kb HS1
      go_wp2_with fail
      rw [rounds_succ]
      go_wp2_with fail
      go_ret
      exact ⟨rfl, HF2.out⟩
/-- A life: the dump, the groups, behind which of them the next dump comes, that dump, where the line is cut, and how. -/
structure LfI where
  d : List UInt8
  l : List (List UInt8)
  ag : Nat
  nx : List UInt8
  cut : Nat
  cs : List Int
structure LfI.fits (x : LfI) : Prop where
  d : x.d.length ≤ 9223372036854775807
  l : ∀ s ∈ x.l, s.length ≤ 9223372036854775807
  ag : x.ag < 256
  nx : x.nx.length ≤ 9223372036854775807
  cut : x.cut < 65536
  cs : ∀ z ∈ x.cs, Z64 z
structure LfAt (w : World) (b off : Nat) (x : LfI) (lv cv : Value) : Prop where
  lt : b < w.heap.size
  c0 : w.cell? ⟨b, off, none⟩ = some (.string (bs x.d))
  c1 : w.cell? ⟨b, off + 1, none⟩ = some lv
  c2 : w.cell? ⟨b, off + 2, none⟩ = some (.int .u8 (x.ag : Nat))
  c3 : w.cell? ⟨b, off + 3, none⟩ = some (.string (bs x.nx))
  c4 : w.cell? ⟨b, off + 4, none⟩ = some (.int .u16 (x.cut : Nat))
  c5 : w.cell? ⟨b, off + 5, none⟩ = some cv
  sl : Strs w lv x.l
  zs : Zs w cv x.cs
  fits : x.fits
def Lfs (w : World) (v : Value) (L : List LfI) : Prop :=
  ∃ a cap, v = .slice a L.length cap ∧ L.length ≤ cap ∧ cap ≤ maxLen ∧ ∀ i (h : i < L.length), ∃ b off lv cv, a = some ⟨b, off, none⟩ ∧ LfAt w b (off + i * 6) L[i] lv cv
theorem LfAt.keepF {w w' : World} {b off : Nat} {x : LfI} {lv cv : Value} (h : LfAt w b off x lv cv) (hf : Frm (fun _ => False) w w') : LfAt w' b off x lv cv := by
  have e := hf.block b h.lt (fun h => h)
  have ec : ∀ j, w'.cell? ⟨b, j, none⟩ = w.cell? ⟨b, j, none⟩ := fun j => World.cell?_of_block (a := ⟨b, j, none⟩) e
  exact ⟨Nat.lt_of_lt_of_le h.lt hf.size, by rw [ec]; exact h.c0, by rw [ec]; exact h.c1, by rw [ec]; exact h.c2, by rw [ec]; exact h.c3, by rw [ec]; exact h.c4, by rw [ec]; exact h.c5, h.sl.keepF hf, h.zs.keepF hf, h.fits⟩
/-- May a life be gone through? -/
def smB (x : LfI) : Bool := decide (x.l.length ≤ 10) && (decide (x.cs.length ≤ 10) && (decide (x.d.length ≤ 2000) && (decide (x.nx.length ≤ 2000) && x.l.all fun s => decide (s.length ≤ 300))))
theorem smB_ok {x : LfI} (h : smB x = true) : x.l.length ≤ 10 ∧ x.cs.length ≤ 10 ∧ x.d.length ≤ 2000 ∧ x.nx.length ≤ 2000 ∧ ∀ i (hi : i < x.l.length), x.l[i].length ≤ 300 := by
  unfold smB at h
  simp only [Bool.and_eq_true, decide_eq_true_eq, List.all_eq_true] at h
  exact ⟨h.1, h.2.1, h.2.2.1, h.2.2.2.1, fun i hi => h.2.2.2.2 _ (List.getElem_mem hi)⟩
/-- A life by value. -/
def lfV (x : LfI) (lv cv : Value) : Array Value := #[.string (bs x.d), lv, .int .u8 (x.ag : Nat), .string (bs x.nx), .int .u16 (x.cut : Nat), cv]
set_option maxRecDepth 100000 in
set_option maxHeartbeats 8000000 in
theorem small14_any (x : LfI) (lv cv : Value) (w : World) (hl : Strs w lv x.l) (hz : Zs w cv x.cs) :
    Calls Tryz.prog 40 #[.agg (lfV x lv cv)] w fun e w' => e = .returned (.bool (smB x)) ∧ Frm (fun _ => False) w w' := by
  obtain ⟨a, cap, rfl, hc1, hc2⟩ := hl.slice
  unfold maxLen at hc2
  obtain ⟨az, capz, rfl, hd1, hd2⟩ := hz.slice
  unfold maxLen at hd2
  obtain ⟨w1, hw1⟩ : ∃ w1, w.alloc (.cells #[.string (bs x.d), .slice a x.l.length cap, .int .u8 (x.ag : Nat), .string (bs x.nx), .int .u16 (x.cut : Nat), .slice az x.cs.length capz] 82) = w1 := ⟨_, rfl⟩
  have g1 : Frm (fun _ => False) w w1 := by rw [← hw1]; exact (Frm.refl _ w).alloc _
  have b1 : Blk w1 w.heap.size 82 #[.string (bs x.d), .slice a x.l.length cap, .int .u8 (x.ag : Nat), .string (bs x.nx), .int .u16 (x.cut : Nat), .slice az x.cs.length capz] := by rw [← hw1]; exact Blk.alloc w _ _
  have HL := Lib.hid (hl.keepF g1)
  have G1 := Lib.hid g1
  have c0 := b1.cell 0 rfl
  have c1 := b1.cell 1 rfl
  have c3 := b1.cell 3 rfl
  have c5 := b1.cell 5 rfl
  have hsd : ((bs x.d).size : Int) = (x.d.length : Int) := by simp [bs, ByteArray.size]
  have hsn : ((bs x.nx).size : Int) = (x.nx.length : Int) := by simp [bs, ByteArray.size]
  clear hl hz g1 b1
  unfold lfV
  go_enter Tryz.func40, Tryz.ntmps40
  go_wp2_with fail
  clear hw1
  go_loopw [3] (fun i wr => ∃ k : Nat, k ≤ x.l.length ∧ k ≤ 20 ∧ i = .int .i64 k ∧ wr = w1 ∧ ∀ j (hj : j < x.l.length), j < k → x.l[j].length ≤ 300) (fun i _ => x.l.length - (intOf i).toNat)
  case atStart => exact ⟨0, Nat.zero_le _, Nat.zero_le _, rfl, rfl, fun j _ h => absurd h (by omega)⟩
  case round =>
    obtain ⟨k, hk, hk20, rfl, rfl, hall⟩ := hrel
    have HA := Lib.hid hall
    clear hall
    by_cases hlt : k < x.l.length ∧ k < 20
    · obtain ⟨hlt1, hlt2⟩ := hlt
      obtain ⟨g, off, rfl, _, ct⟩ := Strs.at HL.out k hlt1
      have hki : (k : Int) < (x.l.length : Int) := by omega
      have hk2 : (k : Int) < 20 := by omega
      obtain ⟨t, hte⟩ : ∃ t, x.l[k] = t := ⟨_, rfl⟩
      rw [hte] at ct
      have HT := Lib.hid hte
      have hst : ((bs t).size : Int) = (t.length : Int) := by simp [bs, ByteArray.size]
      clear hte
      by_cases h300 : t.length ≤ 300
      · have h3i : ¬ (300 : Int) < (t.length : Int) := by omega
        go_wp2_with fail
        go_roundw
        case rel =>
          refine ⟨k + 1, by omega, by omega, by go_num, by first | rfl | trivial, fun j hj hjk => ?_⟩
          by_cases e : j = k
          · subst e
            rw [HT.out]; exact h300
          · exact HA.out j hj (by omega)
        case measure => simp [intOf]; omega
      · have h3i : (300 : Int) < (t.length : Int) := by omega
        have hf : smB x = false := by
          cases hf : smB x with
          | false => rfl
          | true => have := (smB_ok hf).2.2.2.2 k hlt1; rw [HT.out] at this; omega
        go_wp2_with fail
        go_ret
        exact ⟨by rw [hf]; rfl, G1.out⟩
    · by_cases hl10 : x.l.length ≤ 10
      · have hki : ¬ (k : Int) < (x.l.length : Int) := by omega
        have hl1 : (x.l.length : Int) ≤ 10 := by omega
        have hkx : k = x.l.length := by omega
        have hall2 : (x.l.all fun s => decide (s.length ≤ 300)) = true := by
          rw [List.all_eq_true]
          intro s hs
          obtain ⟨j, hj, rfl⟩ := List.getElem_of_mem hs
          simpa using HA.out j hj (by omega)
        have hsm : smB x = (decide (x.cs.length ≤ 10) && (decide (x.d.length ≤ 2000) && decide (x.nx.length ≤ 2000))) := by
          unfold smB
          rw [hall2, decide_eq_true hl10]
          simp
        have HSM := Lib.hid hsm
        clear hsm hall2 hkx hlt
        by_cases h1 : x.cs.length ≤ 10
        · have h1i : (x.cs.length : Int) ≤ 10 := by omega
          by_cases h2 : x.d.length ≤ 2000
          · have h2i : (x.d.length : Int) ≤ 2000 := by omega
            by_cases h3 : x.nx.length ≤ 2000
            · have h3i : (x.nx.length : Int) ≤ 2000 := by omega
              go_wp2_with fail
              go_ret
              exact ⟨by rw [HSM.out]; simp [h1, h2, h3], G1.out⟩
            · have h3i : ¬ (x.nx.length : Int) ≤ 2000 := by omega
              go_wp2_with fail
              go_ret
              exact ⟨by rw [HSM.out]; simp [h1, h2, h3], G1.out⟩
          · have h2i : ¬ (x.d.length : Int) ≤ 2000 := by omega
            go_wp2_with fail
            go_ret
            exact ⟨by rw [HSM.out]; simp [h1, h2], G1.out⟩
        · have h1i : ¬ (x.cs.length : Int) ≤ 10 := by omega
          go_wp2_with fail
          go_ret
          exact ⟨by rw [HSM.out]; simp [h1], G1.out⟩
      · have hl1 : ¬ (x.l.length : Int) ≤ 10 := by omega
        have hsm : smB x = false := by
          unfold smB
          rw [decide_eq_false hl10]
          rfl
        by_cases hkl : k < x.l.length
        · have hki : (k : Int) < (x.l.length : Int) := by omega
          have hk2 : ¬ (k : Int) < 20 := by omega
          clear hlt
          go_wp2_with fail
          go_ret
          exact ⟨by first | rfl | (rw [hsm]; rfl), G1.out⟩
        · have hki : ¬ (k : Int) < (x.l.length : Int) := by omega
          clear hlt
          go_wp2_with fail
          go_ret
          exact ⟨by first | rfl | (rw [hsm]; rfl), G1.out⟩
end Go.Proofs.YtddjkbpgaenpgaaGreat

