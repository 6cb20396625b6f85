/- What the statements on quotas do with items: whether one is the newest one of its path, what is left. Of at most a hundred items. -/
import Derived.Test.YtpabblkdepefcaaQP
namespace Go.Proofs.Ytpabblkdepefcaa
open Go.RowKit Go.Shelf
/-- Is there no later one of its path? -/
def newB (L : List QI) (i : Nat) (h : i < L.length) : Bool := !(L.drop (i + 1)).any fun y => decide (y.path = L[i].path)
theorem newB_no {L : List QI} {i k : Nat} (h : i < L.length) (hk : k < L.length) (hik : i < k) (hp : L[k].path = L[i].path) : newB L i h = false := by
  unfold newB
  rw [Bool.not_eq_false', List.any_eq_true]
  refine ⟨L[k], ?_, decide_eq_true hp⟩
  rw [List.mem_iff_getElem]
  exact ⟨k - (i + 1), by rw [List.length_drop]; omega, by rw [List.getElem_drop]; congr 1; omega⟩
theorem newB_yes {L : List QI} {i : Nat} (h : i < L.length) (hk : ∀ k (hk : k < L.length), i < k → L[k].path ≠ L[i].path) : newB L i h = true := by
  unfold newB
  rw [Bool.not_eq_true', List.any_eq_false]
  intro y hy
  obtain ⟨j, hj, rfl⟩ := List.mem_iff_getElem.1 hy
  rw [List.length_drop] at hj
  rw [List.getElem_drop]
  simpa using hk (i + 1 + j) (by omega) (by omega)
set_option maxRecDepth 100000 in
set_option maxHeartbeats 4000000 in
theorem newest_any (v : Value) (L : List QI) (i : Nat) (w : World) (h : QL w v L) (hi : i < L.length) : Calls Try.prog 16 #[v, .int .i64 i] w fun e w' => e = .returned (.bool (newB L i hi)) ∧ ∃ q, w' = w.drewN q := by
  obtain ⟨a, cap, rfl, hc1, hc2⟩ := h.slice
  unfold maxLen at hc2
  have hiz : (i : Int) < (L.length : Int) := by omega
  have hi0 : (0 : Int) ≤ (i : Int) := by omega
  have HL := Lib.hid h
  clear h
  obtain ⟨b, hbb⟩ : ∃ b, newB L i hi = b := ⟨_, rfl⟩
  rw [hbb]
  have HB := Lib.hid hbb
  clear hbb
  go_enter Try.func16, Try.ntmps16
  go_wp2_with fail
  go_loopw [5] (fun j wr => ∃ k n : Nat, i < k ∧ k ≤ L.length ∧ j = .int .i64 k ∧ wr = w.drewN n ∧ Hid (∀ q (hq : q < L.length), i < q → q < k → L[q].path ≠ L[i].path)) (fun j _ => L.length - (intOf j).toNat)
  case atStart => exact ⟨i + 1, 0, by omega, by omega, by go_num, rfl, fun q _ h1 h2 => by omega⟩
  case round =>
    obtain ⟨k, n, hik, hk, rfl, hwr, HP⟩ := hrel
    have HWR := Lib.hid hwr
    have g1 : Frm (fun _ => False) w wr := by rw [hwr]; exact (Frm.refl _ w).drewN n
    clear hwr
    by_cases hlt : k < L.length
    · have hki : (k : Int) < (L.length : Int) := by omega
      have hk0 : (0 : Int) ≤ (k : Int) := by omega
      have hq := HL.out.keepF g1
      obtain ⟨g, off, rfl, _, e0, _, _, _⟩ := hq.elem i hi
      obtain ⟨g', off', he, _, f0, _, _, _⟩ := hq.elem k hlt
      cases he
      have hbe := bs_beq L[k].path L[i].path
      obtain ⟨x, hx⟩ : ∃ x, L[i].path = x := ⟨_, rfl⟩
      obtain ⟨y, hy⟩ : ∃ y, L[k].path = y := ⟨_, rfl⟩
      rw [hx] at e0 hbe
      rw [hy] at f0 hbe
      have HX := Lib.hid (And.intro hx hy)
      clear hx hy hq
      by_cases hxy : y = x
      · have hb1 : ((bs y).toList == (bs x).toList) = true := by rw [hbe]; exact decide_eq_true hxy
        have hbv : b = false := by rw [← HB.out]; exact newB_no hi hlt hik (by rw [HX.out.1, HX.out.2]; exact hxy)
        have HBV := Lib.hid hbv
        clear hbe hxy hbv
        go_wp2_with fail
        go_quiet (fail)
        go_wp2_with fail
        go_ret
        exact ⟨by rw [HBV.out]; rfl, n + nq, by rw [HWR.out, World.drewN_drewN]⟩
      · have hb1 : ((bs y).toList == (bs x).toList) = false := by rw [hbe]; exact decide_eq_false hxy
        have HXY := Lib.hid hxy
        clear hbe hxy
        go_wp2_with fail
        go_quiet (fail)
        go_wp2_with fail
        go_roundw
        case rel => exact ⟨k + 1, n + nq, by omega, hlt, by go_num, by rw [HWR.out, World.drewN_drewN], fun q hq h1 h2 => by
          rcases Nat.lt_or_ge q k with h | h
          · exact HP.out q hq h1 h
          · obtain rfl : q = k := by omega
            rw [HX.out.1, HX.out.2]; exact HXY.out⟩
        case measure => simp [intOf]; omega
    · obtain rfl : k = L.length := by omega
      have hbv : b = true := by rw [← HB.out]; exact newB_yes hi fun q hq h1 => HP.out q hq h1 hq
      have HBV := Lib.hid hbv
      clear hbv
      go_wp2_with fail
      go_ret
      exact ⟨by rw [HBV.out]; rfl, n, HWR.out⟩
/-- What did not go. -/
def leftQ (L : List QI) (I : List Nat) : List QI := L.filter fun x => !decide (x.id ∈ I)
set_option maxRecDepth 100000 in
set_option maxHeartbeats 8000000 in
theorem left_any (v wv : Value) (L : List QI) (I : List Nat) (w : World) (h : QL w v L) (hw : Ids w wv I) (hb : L.length ≤ 100) : Calls Try.prog 17 #[v, wv] w fun e w' => ∃ u, e = .returned u ∧ QOwn w' u (leftQ L I) ∧ Frm (fun _ => False) w w' ∧ (leftQ L I = [] → u = .slice none 0 0 ∧ ∃ q, w' = w.drewN q) := by
  obtain ⟨a, cap, rfl, hc1, hc2⟩ := h.slice
  obtain ⟨aw, cw, rfl, hcw1, hcw2⟩ := hw.slice
  unfold maxLen at hc2 hcw2
  have HL := Lib.hid h
  have HW := Lib.hid hw
  clear h hw
  go_enter Try.func17, Try.ntmps17
  go_wp2_with fail
  go_loopw [5, 6] (fun u i wr => ∃ (k : Nat) (u0 : Value), u0 = u ∧ k ≤ L.length ∧ i = .int .i64 k ∧ QOwn wr u (leftQ (L.take k) I) ∧ Frm (fun _ => False) w wr ∧ Hid ((∀ g, u.ownBlock = some g → w.heap.size ≤ g) ∧ (leftQ (L.take k) I = [] → u = .slice none 0 0 ∧ ∃ q, wr = w.drewN q)) ∧ ∃ W0, W0 = wr) (fun _ i _ => L.length - (intOf i).toNat)
  case atStart => exact ⟨0, _, rfl, Nat.zero_le _, rfl, by rw [List.take_zero]; exact Row.nil_ _ _, Frm.refl _ _, (⟨(fun g h => nomatch h), (fun _ => ⟨rfl, 0, rfl⟩)⟩ : _ ∧ _), _, rfl⟩
  case round =>
    obtain ⟨k, u, hu, hk, rfl, ho, g1, HN, w1, hw1⟩ := hrel
    subst hu
    subst hw1
    by_cases hlt : k < L.length
    · have hki : (k : Int) < (L.length : Int) := by omega
      have hk0 : (0 : Int) ≤ (k : Int) := by omega
      have K := Lib.hid (And.intro ho g1)
      clear ho g1
      have htk : L.take (k + 1) = L.take k ++ [L[k]] := List.take_succ_eq_append_getElem hlt
      have hq0 := HL.out.keepF K.out.2
      obtain ⟨g, off, rfl, _, d0, d1, d2, d3⟩ := hq0.elem k hlt
      clear d0 d1 d2 d3 hq0
      obtain ⟨x, hx⟩ : ∃ x, L[k] = x := ⟨_, rfl⟩
      have HX := Lib.hid hx
      rw [hx] at htk
      have HTK := Lib.hid htk
      clear htk hx
      have hel : ∀ W, Frm (fun _ => False) w W → W.cell? ⟨g, off + k * 4, none⟩ = some (.string (bs x.path)) ∧ W.cell? ⟨g, off + k * 4 + 1, none⟩ = some (.int .u32 (x.id : Int)) ∧ W.cell? ⟨g, off + k * 4 + 2, none⟩ = some (.int .u32 (x.tick : Int)) ∧ W.cell? ⟨g, off + k * 4 + 3, none⟩ = some (.int .i64 x.size) := fun W gW => by
        obtain ⟨g', off', he, _, e⟩ := (HL.out.keepF gW).elem k hlt
        cases he
        rw [HX.out] at e
        exact e
      have HEL := Lib.hid hel
      clear hel
      go_wp2_with fail
      go_loopw [7, 8] (fun bv j w2 => ∃ (m n : Nat), m ≤ I.length ∧ j = .int .i64 m ∧ bv = .bool (decide (x.id ∈ I.take m)) ∧ w2 = w1.drewN n ∧ ∃ W0, W0 = w2) (fun _ j _ => I.length - (intOf j).toNat)
      case atStart => exact ⟨0, 0, Nat.zero_le _, rfl, by rw [List.take_zero]; rfl, rfl, _, rfl⟩
      case round =>
        obtain ⟨m, n, hm, rfl, rfl, hw2, w2, hw2e⟩ := hrel
        subst hw2e
        have HW2 := Lib.hid hw2
        have g2 : Frm (fun _ => False) w1 w2 := by rw [hw2]; exact (Frm.refl _ w1).drewN n
        clear hw2
        by_cases hlm : m < I.length
        · have hmi : (m : Int) < (I.length : Int) := by omega
          have hm0 : (0 : Int) ≤ (m : Int) := by omega
          have g3 := K.out.2.trans g2
          obtain ⟨_, c1, _, _⟩ := HEL.out w2 g3
          obtain ⟨gw, ow, rfl, _, f0⟩ := (HW.out.keepF g3).at m hlm
          have tm : I.take (m + 1) = I.take m ++ [I[m]] := List.take_succ_eq_append_getElem hlm
          obtain ⟨z, hz⟩ : ∃ z, I[m] = z := ⟨_, rfl⟩
          rw [hz] at f0 tm
          have TM := Lib.hid tm
          clear tm hz g2 g3
          by_cases hin : x.id ∈ I.take m
          · have hd : decide (x.id ∈ I.take m) = true := decide_eq_true hin
            have hd2 : decide (x.id ∈ I.take (m + 1)) = true := decide_eq_true (by rw [TM.out]; exact List.mem_append_left _ hin)
            have HD2 := Lib.hid hd2
            rw [hd]
            clear hin hd hd2 c1 f0
            go_wp2_with fail
            go_quiet (fail)
            go_wp2_with fail
            go_roundw
            case rel => exact ⟨m + 1, n + nq, hlm, by go_num, by rw [HD2.out], by rw [HW2.out, World.drewN_drewN], _, rfl⟩
            case measure => simp [intOf]; omega
          · have hd : decide (x.id ∈ I.take m) = false := decide_eq_false hin
            rw [hd]
            by_cases hzx : z = x.id
            · have hd2 : decide (x.id ∈ I.take (m + 1)) = true := decide_eq_true (by rw [TM.out, hzx]; simp)
              have hq : ((z : Int) == (x.id : Int)) = true := by rw [hzx]; simp
              have HD2 := Lib.hid hd2
              clear hin hd hd2 hzx
              go_wp2_with fail
              go_quiet (fail)
              go_wp2_with fail
              go_roundw
              case rel => exact ⟨m + 1, n + nq, hlm, by go_num, by rw [HD2.out], by rw [HW2.out, World.drewN_drewN], _, rfl⟩
              case measure => simp [intOf]; omega
            · have hd2 : decide (x.id ∈ I.take (m + 1)) = false := decide_eq_false (by rw [TM.out]; simp only [List.mem_append, List.mem_singleton]; exact fun h => h.elim hin (fun e => hzx e.symm))
              have hq : ((z : Int) == (x.id : Int)) = false := by simp; omega
              have HD2 := Lib.hid hd2
              clear hin hd hd2 hzx
              go_wp2_with fail
              go_quiet (fail)
              go_wp2_with fail
              go_roundw
              case rel => exact ⟨m + 1, n + nq, hlm, by go_num, by rw [HD2.out], by rw [HW2.out, World.drewN_drewN], _, rfl⟩
              case measure => simp [intOf]; omega
        · obtain rfl : m = I.length := by omega
          rw [List.take_length]
          have g3 := K.out.2.trans g2
          have o3 := K.out.1.keep g2 (fun _ _ h => h)
          have h1 : leftQ (L.take (k + 1)) I = leftQ (L.take k) I ++ leftQ [x] I := by rw [HTK.out]; exact List.filter_append _ _
          by_cases hin : x.id ∈ I
          · have hd : decide (x.id ∈ I) = true := decide_eq_true hin
            have h2 : leftQ [x] I = [] := by simp [leftQ, hin]
            rw [h2, List.append_nil] at h1
            have E := Lib.hid (And.intro o3 (And.intro g3 h1))
            rw [hd]
            clear o3 g3 h1 h2 hin hd g2
            go_wp2_with fail
            go_roundw
            case rel => exact ⟨k + 1, u, rfl, hlt, by go_num, by rw [E.out.2.2]; exact E.out.1, E.out.2.1, ⟨HN.out.1, fun e => by
              rw [E.out.2.2] at e
              obtain ⟨e1, q, e2⟩ := HN.out.2 e
              exact ⟨e1, q + n, by rw [HW2.out, e2, World.drewN_drewN]⟩⟩, _, rfl⟩
            case measure => simp [intOf]; omega
          · have hd : decide (x.id ∈ I) = false := decide_eq_false hin
            have h2 : leftQ [x] I = [x] := by simp [leftQ, hin]
            rw [h2] at h1
            obtain ⟨c0, c1, c2, c3⟩ := HEL.out w2 g3
            have ga := (Frm.refl (fun _ => False) w2).alloc (.cells (qiv x) 36)
            have hfl : (leftQ (L.take k) I).length ≤ 100 := Nat.le_trans (List.length_filter_le _ _) (by rw [List.length_take]; omega)
            obtain ⟨u', w3, hrun, hown, hgr, hnew⟩ := append_qis _ _ _ _ [x] (o3.keep ga (fun _ _ h => h)) (QL.one w2 36 x) (by simp only [List.length_singleton]; omega)
            rw [← h1] at hown
            have hne : leftQ (L.take (k + 1)) I ≠ [] := by rw [h1]; simp
            have HR := Lib.hid hrun
            have E := Lib.hid (And.intro hown (And.intro ((g3.trans ga).grown hgr (fun q hq e => by have := HN.out.1 q e; omega)) (And.intro (fun g (e : u'.ownBlock = some g) => (hnew g e).elim (HN.out.1 g) (fun e => by have := ga.size; have := g3.size; omega)) hne)))
            rw [hd]
            clear o3 g3 h1 h2 hin hd hrun hown hgr hnew ga hne g2
            go_wp2_with (at_builtin; refine Lib.wpList_append_run _ rfl _ _ _ _ rfl _ _ rfl rfl _ _ HR.out ?_)
            go_roundw
            case rel => exact ⟨k + 1, u', rfl, hlt, by go_num, E.out.1, E.out.2.1, ⟨E.out.2.2.1, fun e => absurd e E.out.2.2.2⟩, _, rfl⟩
            case measure => simp [intOf]; omega
    · obtain rfl : k = L.length := by omega
      rw [List.take_length] at ho
      have E := Lib.hid (And.intro ho (And.intro g1 HN.out.2))
      clear ho g1
      go_wp2_with fail
      go_ret
      refine ⟨_, rfl, E.out.1, E.out.2.1, ?_⟩
      have := E.out.2.2
      rw [List.take_length] at this
      exact this
end Go.Proofs.Ytpabblkdepefcaa
