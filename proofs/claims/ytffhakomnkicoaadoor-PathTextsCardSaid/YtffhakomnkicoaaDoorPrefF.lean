/- What the document's Seen answers. No condition. -/
import Derived.Test.YtffhakomnkicoaaDoorPrefE
import Derived.Test.YtffhakomnkicoaaDoorSeen
namespace Go.Proofs.YtffhakomnkicoaaDoor
open Go.RowKit

/-- A dot that may be none, as cells. -/
def dotC : Option (Nat × Nat) → Array Value
  | some (r, n) => #[.int .u8 r, .int .u32 n]
  | none => #[.int .u8 0, .int .u32 0]
/-- Between two rounds of Seen. -/
def SnI (L : List (List UInt8)) (k : Nat) (done : List (List UInt8)) (dd : Option (Nat × Nat)) : Prop :=
  (k < L.length ∧ 1 ≤ k ∧ seenW 1 L.tail = seenW k (L.drop k) ∧ seenN L.tail = done ++ seenN (L.drop k) ∧ seenD L.tail = seenD (L.drop k) ∧ dd = none) ∨
    (k = L.length ∧ seenW 1 L.tail = 0 ∧ seenN L.tail = done ∧ seenD L.tail = dd)
theorem push_one (wr : World) (a : Option Addr) (cap : Nat) (done : List (List UInt8)) (x : List UInt8) (D : Nat) (ho : OwnS wr (.slice a done.length cap) done) (hl : done.length ≤ 2000) (hn : ∀ g, Value.ownBlock (.slice a done.length cap) = some g → D < g) (hD : D < wr.heap.size) :
    ∃ v' w', (Builtin.append_ #[23, 23] 23 #[.slice a done.length cap, .slice (some ⟨wr.heap.size, 0, none⟩) 1 1]).run Tryd.prog (wr.alloc (.cells #[.string (bs x)] 9)) = .ok v' w' ∧ OwnS w' v' (done ++ [x]) ∧ (∀ g, v'.ownBlock = some g → D < g) ∧ Frm (fun j => D < j) wr w' := by
  obtain ⟨v', w', hrun, hown, hgr, hnew⟩ := append_strs _ _ _ done [x] (ho.keep ((Frm.refl _ wr).alloc (.cells #[.string (bs x)] 9)) (fun _ _ h => h)) (Strs.one wr x) (by simp; omega)
  have g5 := (Frm.refl (fun j => D < j) wr).alloc (.cells #[.string (bs x)] 9)
  refine ⟨v', w', hrun, hown, fun g hg => ?_, g5.grown hgr (fun k hk e => hn k e)⟩
  rcases hnew g hg with e | e
  · exact hn g e
  · have := g5.size; omega
set_option maxRecDepth 100000 in
set_option maxHeartbeats 1500000 in
theorem rseen_any (p : List UInt8) (w : World) (hl : p.length ≤ 1000) : Calls Tryd.prog 14 #[.string (bs p)] w (SeenTo (seen p) w) := by
  obtain ⟨X, hX⟩ : ∃ X, seen p = X := ⟨_, rfl⟩
  rw [hX]
  have HX := Lib.hid hX
  clear hX
  have hsz : (bs p).size = p.length := rfl
  have f0 : Fr w (w.alloc (.cells #[.int .u8 0, .int .u32 0] 34)) := (Frm.refl _ w).alloc _
  have hB0 := Blk.alloc w 34 #[.int .u8 0, .int .u32 0]
  by_cases h44 : 44 < p.length
  · have hX : X = ([], none, 3) := by rw [← HX.out]; unfold seen; rw [if_pos h44]
    have hp : (44 : Int) < (p.length : Int) := by omega
    go_enter Tryd.func14, Tryd.ntmps14
    have d0 := hB0.cell 0 rfl
    have d1 := hB0.cell 1 rfl
    go_wp2_with fail
    exact bodyPost_ret (v := .tuple #[.slice none 0 0, .agg #[.int .u8 0, .int .u32 0], .bool false, .int .i64 3]) (by simp [results, Tryd.results14, go_sem, d0, d1]) rfl ⟨.slice none 0 0, by subst hX; rfl, by subst hX; exact OwnS.nil_ _, f0, fun g hg => by cases hg⟩
  · have hp : (p.length : Int) ≤ 44 := by omega
    have HC := Lib.hid (fun w => by have := rcut_any p 47 47 rfl w hl; unfold NewS at this; exact this)
    obtain ⟨h0, t0, hcons⟩ := cut_cons 47 p
    have hcl := cut_le 47 p
    have hcn := cut_len 47 p
    obtain ⟨L, hL⟩ : ∃ L, cut 47 p = L := ⟨_, rfl⟩
    have hXL : X = (if L.length < 2 ∨ L.headD [] ≠ [] then ([], none, 4) else if p = [47] then ([], none, 0) else if seenW 1 L.tail ≠ 0 then ([], none, seenW 1 L.tail) else (seenN L.tail, seenD L.tail, 0)) := by
      rw [← HX.out, ← hL]; unfold seen; rw [if_neg h44]
    rw [hL] at hcons hcl HC hcn
    have HXL := Lib.hid hXL
    have Hcl := Lib.hid hcl
    have Hcons := Lib.hid hcons
    clear hXL hcl HX hL hcons
    go_enter Tryd.func14, Tryd.ntmps14
    go_wp2_with fail
    refine (HC.out _).mono ?_
    rintro e w1 ⟨v, rfl, o1, f1, _⟩
    have hB := hB0.keep f1 (fun h => h)
    have g1 := f0.trans f1
    obtain ⟨a, cap, rfl, hc1, hc2⟩ := Row.slice o1
    unfold maxLen at hc2
    have s1 := o1.reads
    clear HC o1 hB0 f0 f1
    by_cases h2 : L.length < 2
    · have hX : X = ([], none, 4) := by rw [HXL.out, if_pos (.inl h2)]
      have q2 : (L.length : Int) < 2 := by omega
      have c0 := hB.cell 0 rfl
      have c1 := hB.cell 1 rfl
      have r0 := hB.free 0
      have r1 := hB.free 1
      have hS := (hB.set 0 (.int .u8 0)).set 1 (.int .u32 0)
      have d0 := hS.cell 0 rfl
      have d1 := hS.cell 1 rfl
      have ff : Fr w ((w1.setCell ⟨w.heap.size, 0, none⟩ (.int .u8 0)).setCell ⟨w.heap.size, 1, none⟩ (.int .u32 0)) := (g1.setCell (p := ⟨w.heap.size, 0, none⟩) (fun h => absurd h (by simp)) _).setCell (p := ⟨w.heap.size, 1, none⟩) (fun h => absurd h (by simp)) _
      go_wp2_with fail
      exact bodyPost_ret (v := .tuple #[.slice none 0 0, .agg #[.int .u8 0, .int .u32 0], .bool false, .int .i64 4]) (by simp [results, Tryd.results14, go_sem, d0, d1]) rfl ⟨.slice none 0 0, by subst hX; rfl, by subst hX; exact OwnS.nil_ _, ff, fun g hg => by cases hg⟩
    · have q2 : (2 : Int) ≤ (L.length : Int) := by omega
      obtain ⟨b1, o1, rfl, _, k0⟩ := s1.at 0 (by omega)
      rw [Nat.add_zero] at k0
      have hL0 : L[0]'(by omega) = L.headD [] := by have := Hcons.out; subst this; rfl
      rw [hL0] at k0
      have q0 : (0 : Int) < (L.length : Int) := by omega
      by_cases hh : L.headD [] ≠ []
      · have hX : X = ([], none, 4) := by rw [HXL.out, if_pos (.inr hh)]
        have qh : ((bs (L.headD [])).toList == []) = false := by rw [bs_toList]; simpa using hh
        have qh2 : ¬ (bs (L.headD [])).toList = [] := by rw [bs_toList]; exact hh
        generalize L.headD [] = hd at *
        have c0 := hB.cell 0 rfl
        have c1 := hB.cell 1 rfl
        have r0 := hB.free 0
        have r1 := hB.free 1
        have hS := (hB.set 0 (.int .u8 0)).set 1 (.int .u32 0)
        have d0 := hS.cell 0 rfl
        have d1 := hS.cell 1 rfl
        have ff : Fr w ((w1.setCell ⟨w.heap.size, 0, none⟩ (.int .u8 0)).setCell ⟨w.heap.size, 1, none⟩ (.int .u32 0)) := (g1.setCell (p := ⟨w.heap.size, 0, none⟩) (fun h => absurd h (by simp)) _).setCell (p := ⟨w.heap.size, 1, none⟩) (fun h => absurd h (by simp)) _
        go_wp2_with fail
        exact bodyPost_ret (v := .tuple #[.slice none 0 0, .agg #[.int .u8 0, .int .u32 0], .bool false, .int .i64 4]) (by simp [results, Tryd.results14, go_sem, d0, d1]) rfl ⟨.slice none 0 0, by subst hX; rfl, by subst hX; exact OwnS.nil_ _, ff, fun g hg => by cases hg⟩
      · have hh2 : L.headD [] = [] := Classical.not_not.1 hh
        rw [hh2] at k0
        have qe : (bs []).toList = [] := bs_toList _
        by_cases h47 : p = [47]
        · have hX : X = ([], none, 0) := by rw [HXL.out, if_neg (fun e => e.elim h2 hh), if_pos h47]
          have qp : (bs p).toList = [47] := by rw [bs_toList]; exact h47
          clear h47
          have c0 := hB.cell 0 rfl
          have c1 := hB.cell 1 rfl
          have r0 := hB.free 0
          have r1 := hB.free 1
          have hS := (hB.set 0 (.int .u8 0)).set 1 (.int .u32 0)
          have d0 := hS.cell 0 rfl
          have d1 := hS.cell 1 rfl
          have ff : Fr w ((w1.setCell ⟨w.heap.size, 0, none⟩ (.int .u8 0)).setCell ⟨w.heap.size, 1, none⟩ (.int .u32 0)) := (g1.setCell (p := ⟨w.heap.size, 0, none⟩) (fun h => absurd h (by simp)) _).setCell (p := ⟨w.heap.size, 1, none⟩) (fun h => absurd h (by simp)) _
          go_wp2_with fail
          exact bodyPost_ret (v := .tuple #[.slice none 0 0, .agg #[.int .u8 0, .int .u32 0], .bool false, .int .i64 0]) (by simp [results, Tryd.results14, go_sem, d0, d1]) rfl ⟨.slice none 0 0, by subst hX; rfl, by subst hX; exact OwnS.nil_ _, ff, fun g hg => by cases hg⟩
        · have hX : X = (if seenW 1 L.tail ≠ 0 then ([], none, seenW 1 L.tail) else (seenN L.tail, seenD L.tail, 0)) := by rw [HXL.out, if_neg (fun e => e.elim h2 hh), if_neg h47]
          have qp : ¬ (bs p).toList = [47] := by rw [bs_toList]; exact h47
          have qp2 : ((bs p).toList == [47]) = false := by rw [bs_toList]; simpa using h47
          have HX2 := Lib.hid hX
          clear h47 hX hh hh2 hL0 HXL
          have hd1 : L.drop 1 = L.tail := by simp
          have Hd1 := Lib.hid hd1
          clear hd1
          go_wp2_with fail
          have z0 : Frm (fun _ => False) w1 (w1.alloc (.cells #[.int .u8 0, .int .u32 0] 34)) := (Frm.refl _ w1).alloc _
          have hB2 := hB.old (.cells #[.int .u8 0, .int .u32 0] 34)
          have hD := Blk.alloc w1 34 #[.int .u8 0, .int .u32 0]
          have hlt0 := hB.lt
          have g2 := g1
          obtain ⟨D, hDe⟩ : ∃ D, w1.heap.size = D := ⟨_, rfl⟩
          have hw1 : ∀ j, j < w1.heap.size → ¬ D < j := fun j hj => by omega
          rw [hDe] at hD hlt0
          have hwD : w.heap.size < D := hlt0
          rw [hDe]
          have HW1 := Lib.hid hw1
          have HDE := Lib.hid hDe
          clear hDe hlt0 hB hw1
          go_loopw [7, 9, 10] (fun o b i wr => ∃ (k : Nat) (done : List (List UInt8)) (dd : Option (Nat × Nat)), i = .int .i64 k ∧ b = .bool dd.isSome ∧ OwnS wr o done ∧ (∀ g, o.ownBlock = some g → D < g) ∧ done.length ≤ k ∧ Blk wr w.heap.size 34 #[.int .u8 0, .int .u32 0] ∧ Blk wr D 34 (dotC dd) ∧ Frm (fun _ => False) w1 wr ∧ Hid (SnI L k done dd)) (fun _ _ i _ => L.length - (intOf i).toNat)
          case atStart => exact ⟨1, [], none, rfl, rfl, OwnS.nil_ _, fun g hg => (by cases hg), by simp, hB2, hD, z0, Lib.hid (.inl ⟨by omega, Nat.le_refl _, by rw [Hd1.out], by rw [Hd1.out]; rfl, by rw [Hd1.out], rfl⟩)⟩
          case round =>
            clear z0 hB2 hD
            obtain ⟨k, done, dd, rfl, rfl, ho, hod, hdl, hBz, hBd, fz, hsn⟩ := hrel
            have gz : Fr w wr := g2.trans fz
            have hsD := hBd.lt
            obtain ⟨oa, ocap, rfl, hoc1, hoc2⟩ := Row.slice ho
            unfold maxLen at hoc2
            rcases hsn.out with ⟨hlt, hk1, eW, eN, eD, rfl⟩ | ⟨rfl, eW, eN, eD⟩
            · obtain ⟨b2, o2, eq, _, kx⟩ := (s1.keepF fz).at k hlt
              cases eq
              have hki : (k : Int) < (L.length : Int) := by omega
              have hk0 : (0 : Int) ≤ (k : Int) := by omega
              have hds : L.drop k = L[k] :: L.drop (k + 1) := List.drop_eq_getElem_cons hlt
              have hxl : L[k].length ≤ 44 := by have := Hcl.out L[k] (List.getElem_mem hlt); omega
              rw [hds] at eW eN eD
              generalize L[k] = x at *
              by_cases hlast : k + 1 = L.length
              · have qk : ((k : Int) == (L.length : Int) - 1) = true := by rw [beq_iff_eq]; omega
                have hdn : L.drop (k + 1) = [] := List.drop_eq_nil_of_le (by omega)
                rw [hdn] at eW eN eD
                obtain ⟨K, hK⟩ : ∃ K, cut 126 x = K := ⟨_, rfl⟩
                have HK := Lib.hid (fun w => by have := rcut_any x 126 126 rfl w (by omega); unfold NewS at this; rw [hK] at this; exact this)
                have htild : tild x = decide (1 < K.length) := by unfold tild; rw [hK]
                have hbase : base x = K.headD [] := by unfold base; rw [hK]
                obtain ⟨h', t', hK2⟩ := cut_cons 126 x
                rw [hK] at hK2
                have hKl : 0 < K.length := by rw [hK2]; simp
                have hK0 : K[0]'hKl = base x := by rw [hbase]; subst hK2; rfl
                have hbl : (base x).length ≤ 44 := by
                  have := cut_le 126 x (base x) (by rw [hK, ← hK0]; exact List.getElem_mem hKl)
                  omega
                have hKi : (0 : Int) < (K.length : Int) := by omega
                have HSP := Lib.hid (fun w => by have := rsplit_any x w (by omega); unfold SplitTo at this; exact this)
                have HC := Lib.hid (fun w => rcheck_any (base x) w (by omega))
                have eW2 : seenW 1 L.tail = (if chk (base x) ≠ 0 then chk (base x) else if 4 < k then 3 else if tild x = true ∧ splitO x = none then 4 else 0) := by rw [eW, seenW]
                have eN2 : seenN L.tail = done ++ [base x] := by rw [eN, seenN]
                have eD2 : seenD L.tail = (if tild x = true then (splitO x).map (·.2) else none) := by rw [eD, seenD]
                have HW := Lib.hid eW2
                have HN := Lib.hid eN2
                have HDD := Lib.hid eD2
                have HT := Lib.hid htild
                have HKK := Lib.hid hK0
                clear hK htild hbase hK2 hsn eW eN eD eW2 eN2 eD2 hds hdn hK0
                go_wp2_with fail
                refine (HK.out _).mono ?_
                rintro e w3 ⟨vk, rfl, ok, f3, _⟩
                obtain ⟨ka, kc, rfl, _, _⟩ := Row.slice ok
                obtain ⟨b3, o3, rfl, _, kb⟩ := ok.reads.at 0 hKl
                rw [Nat.add_zero, HKK.out] at kb
                have hB3 := hBz.keep f3 (fun h => h)
                have hD3 := hBd.keep f3 (fun h => h)
                have ho3 : OwnS w3 (.slice oa done.length ocap) done := ho.keep f3 (fun _ _ h => h)
                have fz3 := fz.trans f3
                have kx3 := Frm.cellF f3 kx
                have hs3 := f3.size
                clear ok HK kx hBz hBd ho f3 gz fz
                obtain ⟨y, hy⟩ : ∃ y, base x = y := ⟨_, rfl⟩
                rw [hy] at kb HC HW HN hbl
                by_cases hc : chk y = 0
                · rw [hc] at HC
                  by_cases h4 : 4 < k
                  · have hX : X = ([], none, 3) := by
                      have e : seenW 1 L.tail = 3 := by rw [HW.out, if_neg (by simp [hc]), if_pos h4]
                      rw [HX2.out, e]; rfl
                    have h4i : (4 : Int) < (k : Int) := by omega
                    clear hc
                    go_wp2_with fail
                    refine (HC.out _).mono ?_
                    rintro e w4 ⟨rfl, f4⟩
                    have hB4 := hB3.keep f4 (fun h => h)
                    have g4 := g2.trans (fz3.trans f4)
                    have c0 := hB4.cell 0 rfl
                    have c1 := hB4.cell 1 rfl
                    have r0 := hB4.free 0
                    have r1 := hB4.free 1
                    have hS := (hB4.set 0 (.int .u8 0)).set 1 (.int .u32 0)
                    have d0 := hS.cell 0 rfl
                    have d1 := hS.cell 1 rfl
                    have ff : Fr w ((w4.setCell ⟨w.heap.size, 0, none⟩ (.int .u8 0)).setCell ⟨w.heap.size, 1, none⟩ (.int .u32 0)) := (g4.setCell (p := ⟨w.heap.size, 0, none⟩) (fun h => absurd h (by simp)) _).setCell (p := ⟨w.heap.size, 1, none⟩) (fun h => absurd h (by simp)) _
                    go_wp2_with fail
                    exact bodyPost_ret (v := .tuple #[.slice none 0 0, .agg #[.int .u8 0, .int .u32 0], .bool false, .int .i64 3]) (by simp [results, Tryd.results14, go_sem, d0, d1]) rfl ⟨.slice none 0 0, by subst hX; rfl, by subst hX; exact OwnS.nil_ _, ff, fun g hg => by cases hg⟩
                  · have h4i : (k : Int) ≤ 4 := by omega
                    cases htl : tild x with
                    | false =>
                      have hKn : ¬ 1 < K.length := by have := HT.out; rw [htl] at this; exact of_decide_eq_false this.symm
                      have hKni : (K.length : Int) ≤ 1 := by omega
                      have hsn2 : Hid (SnI L (k + 1) (done ++ [y]) none) := Lib.hid (.inr ⟨by omega, by rw [HW.out, if_neg (by simp [hc]), if_neg h4, htl]; simp, HN.out, by rw [HDD.out, htl]; rfl⟩)
                      clear hc htl hKn
                      go_wp2_with fail
                      refine (HC.out _).mono ?_
                      rintro e w4 ⟨rfl, f4⟩
                      obtain ⟨v', w', hrun, hown, hnew, hfr⟩ := push_one w4 oa ocap done y D (ho3.keep f4 (fun _ _ h => h)) (by omega) hod (by have := f4.size; omega)
                      have HR := Lib.hid hrun
                      clear hrun
                      go_wp2_with (at_builtin; refine Lib.wpList_append_run _ rfl _ _ _ _ rfl _ _ rfl rfl _ _ HR.out ?_)
                      go_roundw
                      case rel => exact ⟨k + 1, done ++ [y], none, by go_num, rfl, hown, hnew, by simp; omega, (hB3.keep f4 (fun h => h)).keep hfr (by omega), (hD3.keep f4 (fun h => h)).keep hfr (by omega), (fz3.trans f4).next hfr (fun j hj hd => HW1.out j hj hd), hsn2⟩
                      case measure => simp [intOf]; omega
                    | true =>
                      have hKn : 1 < K.length := by have := HT.out; rw [htl] at this; exact of_decide_eq_true this.symm
                      have hKni : (1 : Int) < (K.length : Int) := by omega
                      cases hsp : splitO x with
                      | none =>
                        rw [splitV_none hsp, show dotV 0 0 = .agg #[.int .u8 0, .int .u32 0] from rfl] at HSP
                        have hX : X = ([], none, 4) := by
                          have e : seenW 1 L.tail = 4 := by rw [HW.out, if_neg (by simp [hc]), if_neg h4, if_pos ⟨htl, hsp⟩]
                          rw [HX2.out, e]; rfl
                        clear hc htl hKn hsp
                        go_wp2_with fail
                        refine (HC.out _).mono ?_
                        rintro e w4 ⟨rfl, f4⟩
                        have kx4 := Frm.cellF f4 kx3
                        go_wp2_with fail
                        refine (HSP.out _).mono ?_
                        rintro e w5 ⟨rfl, f5⟩
                        have hD5 := (hD3.keep f4 (fun h => h)).keep f5 (fun h => h)
                        have hB5 := (hB3.keep f4 (fun h => h)).keep f5 (fun h => h)
                        have u0 := hD5.cell 0 rfl
                        have u1 := hD5.cell 1 rfl
                        have v0 := hD5.free 0
                        have v1 := hD5.free 1
                        have hB6 := (hB5.other (p := ⟨D, 0, none⟩) (by simp; omega) (.int .u8 0)).other (p := ⟨D, 1, none⟩) (by simp; omega) (.int .u32 0)
                        have g6 : Fr w ((w5.setCell ⟨D, 0, none⟩ (.int .u8 0)).setCell ⟨D, 1, none⟩ (.int .u32 0)) := ((g2.trans ((fz3.trans f4).trans f5)).setCell (p := ⟨D, 0, none⟩) (fun h => by have h' : D < w.heap.size := h; omega) _).setCell (p := ⟨D, 1, none⟩) (fun h => by have h' : D < w.heap.size := h; omega) _
                        clear hB5 hD5 hB3 hD3 ho3 kx3 kb f4 f5 fz3
                        have c0 := hB6.cell 0 rfl
                        have c1 := hB6.cell 1 rfl
                        have r0 := hB6.free 0
                        have r1 := hB6.free 1
                        have hS := (hB6.set 0 (.int .u8 0)).set 1 (.int .u32 0)
                        have d0 := hS.cell 0 rfl
                        have d1 := hS.cell 1 rfl
                        have ff : Fr w ((((w5.setCell ⟨D, 0, none⟩ (.int .u8 0)).setCell ⟨D, 1, none⟩ (.int .u32 0)).setCell ⟨w.heap.size, 0, none⟩ (.int .u8 0)).setCell ⟨w.heap.size, 1, none⟩ (.int .u32 0)) := (g6.setCell (p := ⟨w.heap.size, 0, none⟩) (fun h => absurd h (by simp)) _).setCell (p := ⟨w.heap.size, 1, none⟩) (fun h => absurd h (by simp)) _
                        go_wp2_with fail
                        exact bodyPost_ret (v := .tuple #[.slice none 0 0, .agg #[.int .u8 0, .int .u32 0], .bool false, .int .i64 4]) (by simp [results, Tryd.results14, go_sem, d0, d1]) rfl ⟨.slice none 0 0, by subst hX; rfl, by subst hX; exact OwnS.nil_ _, ff, fun g hg => by cases hg⟩
                      | some X3 =>
                        obtain ⟨a3, r, n⟩ := X3
                        have hspv : splitV x = .tuple #[.string (bs a3), dotV r n, .bool true] := by unfold splitV; rw [hsp]
                        rw [hspv] at HSP
                        simp only [dotV] at HSP
                        have hsn2 : Hid (SnI L (k + 1) (done ++ [y]) (some (r, n))) := Lib.hid (.inr ⟨by omega, by rw [HW.out, if_neg (by simp [hc]), if_neg h4, if_neg (by rw [hsp]; simp)], HN.out, by rw [HDD.out, htl, hsp]; rfl⟩)
                        clear hc htl hKn hsp hspv
                        go_wp2_with fail
                        refine (HC.out _).mono ?_
                        rintro e w4 ⟨rfl, f4⟩
                        have kx4 := Frm.cellF f4 kx3
                        go_wp2_with fail
                        refine (HSP.out _).mono ?_
                        rintro e w5 ⟨rfl, f5⟩
                        have hD5 := (hD3.keep f4 (fun h => h)).keep f5 (fun h => h)
                        have hB5 := (hB3.keep f4 (fun h => h)).keep f5 (fun h => h)
                        have ho5 : OwnS w5 (.slice oa done.length ocap) done := (ho3.keep f4 (fun _ _ h => h)).keep f5 (fun _ _ h => h)
                        have u0 := hD5.cell 0 rfl
                        have u1 := hD5.cell 1 rfl
                        have v0 := hD5.free 0
                        have v1 := hD5.free 1
                        have hB6 := (hB5.other (p := ⟨D, 0, none⟩) (by simp; omega) (.int .u8 r)).other (p := ⟨D, 1, none⟩) (by simp; omega) (.int .u32 n)
                        have hD6 : Blk ((w5.setCell ⟨D, 0, none⟩ (.int .u8 r)).setCell ⟨D, 1, none⟩ (.int .u32 n)) D 34 (dotC (some (r, n))) := (hD5.set 0 (.int .u8 r)).set 1 (.int .u32 n)
                        have hnD : Value.ownBlock (.slice oa done.length ocap) ≠ some D := fun e => by have := hod _ e; omega
                        have ho6 : OwnS ((w5.setCell ⟨D, 0, none⟩ (.int .u8 r)).setCell ⟨D, 1, none⟩ (.int .u32 n)) (.slice oa done.length ocap) done := Row.setOther (p := ⟨D, 1, none⟩) (Row.setOther (p := ⟨D, 0, none⟩) ho5 hnD _) hnD _
                        have fz6 : Frm (fun _ => False) w1 ((w5.setCell ⟨D, 0, none⟩ (.int .u8 r)).setCell ⟨D, 1, none⟩ (.int .u32 n)) := (((fz3.trans f4).trans f5).setCell (p := ⟨D, 0, none⟩) (fun h => by have h' : D < w1.heap.size := h; have := HDE.out; omega) _).setCell (p := ⟨D, 1, none⟩) (fun h => by have h' : D < w1.heap.size := h; have := HDE.out; omega) _
                        clear hB5 hD5 hB3 hD3 ho3 ho5 kx3 kb f4 f5 fz3
                        obtain ⟨v', w', hrun, hown, hnew, hfr⟩ := push_one ((w5.setCell ⟨D, 0, none⟩ (.int .u8 r)).setCell ⟨D, 1, none⟩ (.int .u32 n)) oa ocap done y D ho6 (by omega) hod hD6.lt
                        simp only [World.size_setCell] at hrun
                        have HR := Lib.hid hrun
                        clear hrun
                        go_wp2_with (at_builtin; refine Lib.wpList_append_run _ rfl _ _ _ _ rfl _ _ rfl rfl _ _ HR.out ?_)
                        go_roundw
                        case rel => exact ⟨k + 1, done ++ [y], some (r, n), by go_num, rfl, hown, hnew, by simp; omega, hB6.keep hfr (by omega), hD6.keep hfr (by omega), fz6.next hfr (fun j hj hd => HW1.out j hj hd), hsn2⟩
                        case measure => simp [intOf]; omega
                · obtain ⟨c, hcc⟩ : ∃ c, chk y = c := ⟨_, rfl⟩
                  have hX : X = ([], none, c) := by
                    have e : seenW 1 L.tail = c := by rw [HW.out, if_pos hc, hcc]
                    rw [HX2.out, e, if_pos (by rw [← hcc]; exact hc)]
                  rw [hcc] at HC hc
                  have q : ((c : Int) != 0) = true := by rw [bne_iff_ne]; omega
                  clear hc hcc
                  go_wp2_with fail
                  refine (HC.out _).mono ?_
                  rintro e w4 ⟨rfl, f4⟩
                  have hB4 := hB3.keep f4 (fun h => h)
                  have g4 := g2.trans (fz3.trans f4)
                  have c0 := hB4.cell 0 rfl
                  have c1 := hB4.cell 1 rfl
                  have r0 := hB4.free 0
                  have r1 := hB4.free 1
                  have hS := (hB4.set 0 (.int .u8 0)).set 1 (.int .u32 0)
                  have d0 := hS.cell 0 rfl
                  have d1 := hS.cell 1 rfl
                  have ff : Fr w ((w4.setCell ⟨w.heap.size, 0, none⟩ (.int .u8 0)).setCell ⟨w.heap.size, 1, none⟩ (.int .u32 0)) := (g4.setCell (p := ⟨w.heap.size, 0, none⟩) (fun h => absurd h (by simp)) _).setCell (p := ⟨w.heap.size, 1, none⟩) (fun h => absurd h (by simp)) _
                  go_wp2_with fail
                  exact bodyPost_ret (v := .tuple #[.slice none 0 0, .agg #[.int .u8 0, .int .u32 0], .bool false, .int .i64 c]) (by simp [results, Tryd.results14, go_sem, d0, d1]) rfl ⟨.slice none 0 0, by subst hX; rfl, by subst hX; exact OwnS.nil_ _, ff, fun g hg => by cases hg⟩
              · have qk : ((k : Int) == (L.length : Int) - 1) = false := by rw [beq_eq_false_iff_ne]; omega
                have hne : L.drop (k + 1) ≠ [] := fun e => by have := congrArg List.length e; rw [List.length_drop, List.length_nil] at this; omega
                obtain ⟨y, rest, hyr⟩ := List.exists_cons_of_ne_nil hne
                rw [hyr] at eW eN eD
                have HC := Lib.hid (fun w => rcheck_any x w (by omega))
                by_cases hc : chk x = 0
                · rw [hc] at HC
                  by_cases h4 : 4 < k
                  · have hX : X = ([], none, 3) := by
                      have e : seenW 1 L.tail = 3 := by rw [eW, seenW, if_neg (by simp [hc]), if_pos h4]
                      rw [HX2.out, e]; rfl
                    have h4i : (4 : Int) < (k : Int) := by omega
                    clear hsn eW eN eD hc hds hne
                    go_wp2_with fail
                    refine (HC.out _).mono ?_
                    rintro e w3 ⟨rfl, f3⟩
                    have hB3 := hBz.keep f3 (fun h => h)
                    have g3 := gz.trans f3
                    have c0 := hB3.cell 0 rfl
                    have c1 := hB3.cell 1 rfl
                    have r0 := hB3.free 0
                    have r1 := hB3.free 1
                    have hS := (hB3.set 0 (.int .u8 0)).set 1 (.int .u32 0)
                    have d0 := hS.cell 0 rfl
                    have d1 := hS.cell 1 rfl
                    have ff : Fr w ((w3.setCell ⟨w.heap.size, 0, none⟩ (.int .u8 0)).setCell ⟨w.heap.size, 1, none⟩ (.int .u32 0)) := (g3.setCell (p := ⟨w.heap.size, 0, none⟩) (fun h => absurd h (by simp)) _).setCell (p := ⟨w.heap.size, 1, none⟩) (fun h => absurd h (by simp)) _
                    go_wp2_with fail
                    exact bodyPost_ret (v := .tuple #[.slice none 0 0, .agg #[.int .u8 0, .int .u32 0], .bool false, .int .i64 3]) (by simp [results, Tryd.results14, go_sem, d0, d1]) rfl ⟨.slice none 0 0, by subst hX; rfl, by subst hX; exact OwnS.nil_ _, ff, fun g hg => by cases hg⟩
                  · have h4i : (k : Int) ≤ 4 := by omega
                    have hsn2 : Hid (SnI L (k + 1) (done ++ [x]) none) := Lib.hid (.inl ⟨by omega, by omega, by rw [eW, seenW, if_neg (by simp [hc]), if_neg h4, hyr], by rw [eN, seenN, hyr]; simp, by rw [eD, seenD, hyr], rfl⟩)
                    clear hsn eW eN eD hc hds hne
                    go_wp2_with fail
                    refine (HC.out _).mono ?_
                    rintro e w3 ⟨rfl, f3⟩
                    obtain ⟨v', w', hrun, hown, hnew, hfr⟩ := push_one w3 oa ocap done x D (ho.keep f3 (fun _ _ h => h)) (by omega) hod (by have := f3.size; omega)
                    have HR := Lib.hid hrun
                    clear hrun
                    go_wp2_with (at_builtin; refine Lib.wpList_append_run _ rfl _ _ _ _ rfl _ _ rfl rfl _ _ HR.out ?_)
                    go_roundw
                    case rel => exact ⟨k + 1, done ++ [x], none, by go_num, rfl, hown, hnew, by simp; omega, (hBz.keep f3 (fun h => h)).keep hfr (by omega), (hBd.keep f3 (fun h => h)).keep hfr (by omega), (fz.trans f3).next hfr (fun j hj hd => HW1.out j hj hd), hsn2⟩
                    case measure => simp [intOf]; omega
                · obtain ⟨c, hcc⟩ : ∃ c, chk x = c := ⟨_, rfl⟩
                  have hX : X = ([], none, c) := by
                    have e : seenW 1 L.tail = c := by rw [eW, seenW, if_pos hc, hcc]
                    rw [HX2.out, e, if_pos (by rw [← hcc]; exact hc)]
                  rw [hcc] at HC hc
                  have q : ((c : Int) != 0) = true := by rw [bne_iff_ne]; omega
                  clear hsn eW eN eD hc hcc hds hne
                  go_wp2_with fail
                  refine (HC.out _).mono ?_
                  rintro e w3 ⟨rfl, f3⟩
                  have hB3 := hBz.keep f3 (fun h => h)
                  have g3 := gz.trans f3
                  have c0 := hB3.cell 0 rfl
                  have c1 := hB3.cell 1 rfl
                  have r0 := hB3.free 0
                  have r1 := hB3.free 1
                  have hS := (hB3.set 0 (.int .u8 0)).set 1 (.int .u32 0)
                  have d0 := hS.cell 0 rfl
                  have d1 := hS.cell 1 rfl
                  have ff : Fr w ((w3.setCell ⟨w.heap.size, 0, none⟩ (.int .u8 0)).setCell ⟨w.heap.size, 1, none⟩ (.int .u32 0)) := (g3.setCell (p := ⟨w.heap.size, 0, none⟩) (fun h => absurd h (by simp)) _).setCell (p := ⟨w.heap.size, 1, none⟩) (fun h => absurd h (by simp)) _
                  go_wp2_with fail
                  exact bodyPost_ret (v := .tuple #[.slice none 0 0, .agg #[.int .u8 0, .int .u32 0], .bool false, .int .i64 c]) (by simp [results, Tryd.results14, go_sem, d0, d1]) rfl ⟨.slice none 0 0, by subst hX; rfl, by subst hX; exact OwnS.nil_ _, ff, fun g hg => by cases hg⟩
            · have hX : X = (done, dd, 0) := by
                rw [HX2.out, eW, eN, eD]; rfl
              have qL : (L.length : Int) ≤ (L.length : Int) := Int.le_refl _
              clear hsn eW eN eD
              have c0 := hBz.cell 0 rfl
              have c1 := hBz.cell 1 rfl
              have r0 := hBz.free 0
              have r1 := hBz.free 1
              have hno : Value.ownBlock (.slice oa done.length ocap) ≠ some w.heap.size := fun e => by have := hod _ e; omega
              have hnew : ∀ g, Value.ownBlock (.slice oa done.length ocap) = some g → w.heap.size ≤ g := fun g hg => by have := hod g hg; omega
              cases dd with
              | none =>
                have y0 : wr.cell? ⟨D, 0, none⟩ = some (.int .u8 0) := hBd.cell 0 rfl
                have y1 : wr.cell? ⟨D, 1, none⟩ = some (.int .u32 0) := hBd.cell 1 rfl
                have hS := (hBz.set 0 (.int .u8 0)).set 1 (.int .u32 0)
                have ff : Fr w ((wr.setCell ⟨w.heap.size, 0, none⟩ (.int .u8 0)).setCell ⟨w.heap.size, 1, none⟩ (.int .u32 0)).drew := ((gz.setCell (p := ⟨w.heap.size, 0, none⟩) (fun h => absurd h (by simp)) _).setCell (p := ⟨w.heap.size, 1, none⟩) (fun h => absurd h (by simp)) _).drew
                have oF : OwnS ((wr.setCell ⟨w.heap.size, 0, none⟩ (.int .u8 0)).setCell ⟨w.heap.size, 1, none⟩ (.int .u32 0)).drew (.slice oa done.length ocap) done := Row.drew (Row.setOther (p := ⟨w.heap.size, 1, none⟩) (Row.setOther (p := ⟨w.heap.size, 0, none⟩) ho hno _) hno _)
                have d0 := (hS.drew).cell 0 rfl
                have d1 := (hS.drew).cell 1 rfl
                go_wp2_with fail
                go_region
                all_goals
                  go_wp2_with fail
                  exact bodyPost_ret (v := .tuple #[.slice oa done.length ocap, .agg #[.int .u8 0, .int .u32 0], .bool false, .int .i64 0]) (by simp [results, Tryd.results14, go_sem, d0, d1]) rfl ⟨.slice oa done.length ocap, by subst hX; rfl, by subst hX; exact oF, ff, hnew⟩
              | some rn =>
                obtain ⟨r, n⟩ := rn
                have y0 : wr.cell? ⟨D, 0, none⟩ = some (.int .u8 r) := hBd.cell 0 rfl
                have y1 : wr.cell? ⟨D, 1, none⟩ = some (.int .u32 n) := hBd.cell 1 rfl
                have hS := (hBz.set 0 (.int .u8 r)).set 1 (.int .u32 n)
                have ff : Fr w ((wr.setCell ⟨w.heap.size, 0, none⟩ (.int .u8 r)).setCell ⟨w.heap.size, 1, none⟩ (.int .u32 n)).drew := ((gz.setCell (p := ⟨w.heap.size, 0, none⟩) (fun h => absurd h (by simp)) _).setCell (p := ⟨w.heap.size, 1, none⟩) (fun h => absurd h (by simp)) _).drew
                have oF : OwnS ((wr.setCell ⟨w.heap.size, 0, none⟩ (.int .u8 r)).setCell ⟨w.heap.size, 1, none⟩ (.int .u32 n)).drew (.slice oa done.length ocap) done := Row.drew (Row.setOther (p := ⟨w.heap.size, 1, none⟩) (Row.setOther (p := ⟨w.heap.size, 0, none⟩) ho hno _) hno _)
                have d0 := (hS.drew).cell 0 rfl
                have d1 := (hS.drew).cell 1 rfl
                go_wp2_with fail
                go_region
                all_goals
                  go_wp2_with fail
                  exact bodyPost_ret (v := .tuple #[.slice oa done.length ocap, .agg #[.int .u8 r, .int .u32 n], .bool true, .int .i64 0]) (by simp [results, Tryd.results14, go_sem, d0, d1]) rfl ⟨.slice oa done.length ocap, by subst hX; rfl, by subst hX; exact oF, ff, hnew⟩
end Go.Proofs.YtffhakomnkicoaaDoor
