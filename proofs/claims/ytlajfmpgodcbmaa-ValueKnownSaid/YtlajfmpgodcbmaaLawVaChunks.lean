/- The statement ValueChunks, walked. -/
import Derived.Test.YtlajfmpgodcbmaaValZ
import Derived.Test.YtlajfmpgodcbmaaShelf
import Derived.Lib.Join
import Derived.Deep.Cut
namespace Go.Proofs.Ytlajfmpgodcbmaa
open Go.RowKit Go.Shelf
attribute [local go_sem] Oper.semAt_some

theorem join_flat (l : List (List UInt8)) : Lib.join l [] = l.flatten := by
  cases l with
  | nil => rfl
  | cons a l => rw [Lib.join_cons]; simp [Lib.joinTail]
theorem chunks_flat (s : List UInt8) : (chunks s).flatten = s := by
  induction hn : s.length using Nat.strongRecOn generalizing s with
  | _ n ih =>
    by_cases h : s = []
    · subst h; rw [chunks_nil]; rfl
    · have hl : 0 < s.length := by
        cases s with
        | nil => exact absurd rfl h
        | cons a s => simp
      rw [chunks_some h, List.flatten_cons, ih (s.drop 64).length (by rw [List.length_drop]; omega) (s.drop 64) rfl, List.take_append_drop]
theorem chunks_inj (s t : List UInt8) : decide (chunks s = chunks t) = ((bs s).toList == (bs t).toList) := by
  rw [bs_toList, bs_toList, Bool.eq_iff_iff, decide_eq_true_iff, beq_iff_eq]
  constructor
  · intro h; rw [← chunks_flat s, ← chunks_flat t, h]
  · intro h; rw [h]
theorem chunk_len (s : List UInt8) : ∀ k (h : k < (chunks s).length), 1 ≤ (chunks s)[k].length ∧ (chunks s)[k].length ≤ 64 ∧ (k + 1 < (chunks s).length → (chunks s)[k].length = 64) := by
  induction hn : s.length using Nat.strongRecOn generalizing s with
  | _ n ih =>
    intro k hk
    by_cases h : s = []
    · subst h; rw [chunks_nil] at hk; cases hk
    · have hl : 0 < s.length := by
        cases s with
        | nil => exact absurd rfl h
        | cons a s => simp
      have hcs := chunks_some h
      have hcl := chunks_count s
      have hcd := chunks_count (s.drop 64)
      simp only [hcs] at hk hcl ⊢
      rw [List.length_drop] at hcd
      cases k with
      | zero =>
        simp only [List.getElem_cons_zero, List.length_take, List.length_cons]
        rw [hcd]
        unfold count
        omega
      | succ k =>
        have := ih (s.drop 64).length (by rw [List.length_drop]; omega) (s.drop 64) rfl k (by simpa using hk)
        simp only [List.getElem_cons_succ, List.length_cons]
        exact ⟨this.1, this.2.1, fun h => this.2.2 (by omega)⟩

/-- Texts, joined by nothing. -/
theorem join_none (v : Value) (l : List (List UInt8)) (w : World) (h : Strs w v l) (hn : l.length ≤ 1000000) (hb : l.flatten.length ≤ 1000000) :
    Calls Try.prog 34 #[v, .string ⟨#[]⟩] w fun e w' => e = .returned (.string (bs l.flatten)) ∧ Frm (fun _ => False) w w' := by
  obtain ⟨a, cap, rfl, hc1, hc2⟩ := h.slice
  rw [← join_flat] at hb ⊢
  by_cases h0 : l = []
  · subst h0
    exact (Try.strings_Join_none a cap ⟨#[]⟩ w).mono fun e w' ⟨h1, h2⟩ => ⟨h1, by rw [h2]; exact Frm.refl _ _⟩
  · have hp : 0 < l.length := by
      rcases Nat.eq_zero_or_pos l.length with e | e
      · exact absurd (List.eq_nil_of_length_eq_zero e) h0
      · exact e
    obtain ⟨g, off, rfl, hg, _⟩ := h.at 0 hp
    have hm : (l.map bs).map (fun s : ByteArray => s.data.toList) = l := by
      rw [List.map_map]
      exact List.map_id l
    have hj := Try.strings_Join g off cap (l.map bs) ⟨#[]⟩ w (fun j x hx => ?_) hg (by rw [List.length_map]; omega) (by rw [List.length_map]; exact hc1) (by rw [hm]; show (Lib.join l []).length ≤ _; omega)
    · rw [hm, List.length_map] at hj
      exact hj.mono fun e w' ⟨h1, h2⟩ => ⟨h1, (Frm.ofBelow h2).mono fun k hk hx => by omega⟩
    · have hjl : j < l.length := by
        rcases Nat.lt_or_ge j l.length with e | e
        · exact e
        · rw [List.getElem?_eq_none (by simpa using e)] at hx; cases hx
      obtain ⟨g', off', e, _, hc⟩ := h.at j hjl
      cases e
      rw [hc]
      simp [hjl] at hx
      rw [hx]

theorem takes_succ_eq {l m : List (List UInt8)} {k : Nat} (hk : k < l.length) (hk2 : k < m.length) (h : l.take k = m.take k) (h2 : l[k] = m[k]) : l.take (k + 1) = m.take (k + 1) := by
  rw [List.take_succ_eq_append_getElem hk, List.take_succ_eq_append_getElem hk2, h, h2]

set_option maxRecDepth 100000 in
set_option maxHeartbeats 8000000 in
theorem valueChunks_any (s t : List UInt8) (w : World) (hs : s.length ≤ 9223372036854775807) (ht : t.length ≤ 9223372036854775807) :
    Calls Try.prog 6 #[.string (bs s), .string (bs t)] w fun e w' => e = .returned (.bool true) ∧ Frm (fun _ => False) w w' := by
  by_cases h1 : s.length ≤ 3000
  case neg =>
    have h1' : (3000 : Int) < ((bs s).size : Int) := by rw [bs_size]; omega
    go_enter Try.func6, Try.ntmps6
    go_wp2_with fail
    refine (wawake_any _).mono ?_
    rintro e w9 ⟨rfl, g9⟩
    go_wp2_with fail
    go_ret
    exact ⟨rfl, g9⟩
  have h1' : ((bs s).size : Int) ≤ 3000 := by rw [bs_size]; omega
  by_cases h2 : t.length ≤ 3000
  case neg =>
    have h2' : (3000 : Int) < ((bs t).size : Int) := by rw [bs_size]; omega
    go_enter Try.func6, Try.ntmps6
    go_wp2_with fail
    refine (wawake_any _).mono ?_
    rintro e w9 ⟨rfl, g9⟩
    go_wp2_with fail
    go_ret
    exact ⟨rfl, g9⟩
  have h2' : ((bs t).size : Int) ≤ 3000 := by rw [bs_size]; omega
  have hinj := chunks_inj s t
  have hfl := chunks_flat s
  have hct := chunks_count s
  have hct2 := chunks_count t
  have hlen := chunk_len s
  have hc1 : (chunks s).length ≤ 60 := by rw [hct]; unfold count; omega
  have hc2 : (chunks t).length ≤ 60 := by rw [hct2]; unfold count; omega
  have HS := Lib.hid (split_any s w h1)
  have HT := Lib.hid (fun W => split_any t W h2)
  generalize chunks s = L at *
  generalize chunks t = M at *
  have HI := Lib.hid hinj
  have HFL := Lib.hid hfl
  have HLN := Lib.hid hlen
  have HCT := Lib.hid hct
  clear hinj hfl hct hct2 hlen
  go_enter Try.func6, Try.ntmps6
  go_wp2_with fail
  refine HS.out.mono ?_
  rintro e w1 ⟨vl, rfl, ol, g1, _⟩
  go_wp2_with fail
  refine (HT.out w1).mono ?_
  rintro e w2 ⟨vm, rfl, om, g2, _⟩
  have ol := ol.keep g2 (fun _ _ h => h)
  have k2 := g1.trans g2
  obtain ⟨al, cl, rfl, _, _⟩ := Row.slice ol
  obtain ⟨am, cm, rfl, _, _⟩ := Row.slice om
  clear HS HT g1 g2
  go_wp2_with fail
  refine (join_none _ L w2 ol.reads (by omega) (by rw [HFL.out]; omega)).mono ?_
  rintro e w3 ⟨rfl, g3⟩
  rw [HFL.out]
  have n1 : ((bs s).toList != (bs s).toList) = false := bne_self_eq_false _
  have hI : I64 ((bs s).size : Int) := by unfold I64; omega
  go_wp2_with fail
  refine (count_any _ w3 hI).mono ?_
  rintro e w4 ⟨rfl, rfl⟩
  have hcc : count ((bs s).size : Int) = L.length := by rw [HCT.out]; rfl
  rw [hcc]
  have n2 : ((L.length : Int) != (L.length : Int)) = false := bne_self_eq_false _
  have sl := (ol.keep g3 (fun _ _ h => h)).reads
  have sm := (om.keep g3 (fun _ _ h => h)).reads
  have k3 := k2.trans g3
  clear hcc hI ol om k2 g3 n1
  go_wp2_with fail
  clear n2
  go_loopw [7] (fun i wr => ∃ k : Nat, k ≤ L.length ∧ i = .int .i64 k ∧ Frm (fun _ => False) w4 wr) (fun i _ => L.length - (intOf i).toNat)
  case atStart => exact ⟨0, Nat.zero_le _, rfl, Frm.refl _ _⟩
  case round =>
    obtain ⟨k, hk, rfl, fr⟩ := hrel
    by_cases hlt : k < L.length
    · obtain ⟨g, off, rfl, _, c0⟩ := (sl.keepF fr).at k hlt
      obtain ⟨l1, l2, l3⟩ := HLN.out k hlt
      have hki : (k : Int) < L.length := by omega
      have z1 : ¬ (((bs L[k]).size : Int) < 1) := by rw [bs_size]; omega
      have z1' : (1 : Int) ≤ ((bs L[k]).size : Int) := by rw [bs_size]; omega
      have z2 : ¬ ((64 : Int) < ((bs L[k]).size : Int)) := by rw [bs_size]; omega
      have z2' : ((bs L[k]).size : Int) ≤ 64 := by rw [bs_size]; omega
      have hL1 : 1 ≤ L.length := by omega
      by_cases hlast : k + 1 < L.length
      · have z3 : (((bs L[k]).size : Int) != 64) = false := by rw [bne_eq_false_iff_eq, bs_size, l3 hlast]; rfl
        have z4 : (k : Int) < (L.length : Int) - 1 := by omega
        clear l1 l2 l3
        generalize bs L[k] = x at *
        go_wp2_with fail
        go_roundw
        case rel => exact ⟨k + 1, by omega, by go_num, fr⟩
        case measure => simp [intOf]; omega
      · have z4 : ¬ (k : Int) < (L.length : Int) - 1 := by omega
        have z4' : (L.length : Int) - 1 ≤ (k : Int) := by omega
        clear l1 l2 l3
        generalize bs L[k] = x at *
        go_wp2_with fail
        go_roundw
        case rel => exact ⟨k + 1, by omega, by go_num, fr⟩
        case measure => simp [intOf]; omega
    · obtain rfl : k = L.length := by omega
      have sl := sl.keepF fr
      have sm := sm.keepF fr
      have kr := k3.trans fr
      clear k3 fr hk hlt
      have he : ((L.length : Int) == (M.length : Int)) = decide (L.length = M.length) := by
        rw [Bool.eq_iff_iff, beq_iff_eq, decide_eq_true_iff]; omega
      obtain ⟨q0, hq0⟩ : ∃ q0, decide (L.length = M.length) = q0 := ⟨_, rfl⟩
      rw [hq0] at he
      have HQ0 := Lib.hid hq0
      clear hq0
      go_upto_region 13 with fail
      generalize wr = wa at *
      go_loopw [8, 9] (fun b i wz => ∃ (k : Nat) (q : Bool), k ≤ L.length ∧ i = .int .i64 k ∧ b = .bool q ∧ (q = true ↔ L.length = M.length ∧ L.take k = M.take k) ∧ Frm (fun _ => False) wa wz) (fun _ i _ => L.length - (intOf i).toNat)
      case atStart => exact ⟨0, q0, Nat.zero_le _, rfl, rfl, by rw [← HQ0.out]; simp, Frm.refl _ _⟩
      case round =>
        obtain ⟨k, q, hk, rfl, rfl, hq, fz⟩ := hrel
        clear he
        have hki0 : (0 : Int) ≤ (k : Int) := by omega
        have hout : q = false ∨ k = L.length → ((bs s).toList == (bs t).toList) = q := fun h => by
          rw [← HI.out]
          rcases h with h | h
          · rw [h]
            apply decide_eq_false
            intro e
            subst e
            rw [h] at hq
            exact absurd (hq.2 ⟨rfl, rfl⟩) (by simp)
          · rw [Bool.eq_iff_iff, decide_eq_true_iff, hq, h, List.take_length]
            constructor
            · intro e; subst e; exact ⟨rfl, (List.take_length).symm⟩
            · rintro ⟨e1, e2⟩; rw [e1, List.take_length] at e2; exact e2
        have Hq := Lib.hid hq
        have Hout := Lib.hid hout
        clear hq hout
        by_cases hgo : k < L.length ∧ q = true
        · obtain ⟨hlt, rfl⟩ := hgo
          obtain ⟨hlm, htk⟩ := Hq.out.1 rfl
          have hlt2 : k < M.length := by rw [← hlm]; exact hlt
          obtain ⟨g, off, rfl, _, c0⟩ := (sl.keepF fz).at k hlt
          obtain ⟨g2, off2, rfl, _, c1⟩ := (sm.keepF fz).at k hlt2
          have e1 : wr.drew.cell? ⟨g, off + k, none⟩ = some (.string (bs L[k])) := c0
          have e2 : wr.drew.cell? ⟨g2, off2 + k, none⟩ = some (.string (bs M[k])) := c1
          have hki : (k : Int) < L.length := by omega
          have hkm : (k : Int) < M.length := by omega
          obtain ⟨q2, hq2⟩ : ∃ q2, ((bs L[k]).toList == (bs M[k]).toList) = q2 := ⟨_, rfl⟩
          have hq3 : q2 = true ↔ L[k] = M[k] := by rw [← hq2, bs_toList, bs_toList, beq_iff_eq]
          have HN : Hid (q2 = true ↔ L.length = M.length ∧ L.take (k + 1) = M.take (k + 1)) := Lib.hid (by
            rw [hq3]
            constructor
            · intro e; exact ⟨hlm, takes_succ_eq hlt hlt2 htk e⟩
            · rintro ⟨_, e⟩
              have := congrArg (fun l => l[k]?) e
              simpa [hlt, hlt2] using this)
          generalize bs L[k] = x at *
          generalize bs M[k] = y at *
          have Htk := Lib.hid htk
          clear c0 c1 hq3 htk hlm
          go_wp2_with fail
          refine wp_region_canon (fun W => W.cell? ⟨g, off + k, none⟩ = some (.string x) ∧ W.cell? ⟨g2, off2 + k, none⟩ = some (.string y) ∧ Frm (fun _ => False) wa W) (by kernel_rfl) rfl (by kernel_rfl) (by kernel_rfl) (⟨e1, e2, fz.drew⟩) ?_
          repeat' first
            | (refine CanonL.skip (by rfl) ?_; (try simp only [Act.put, List.setIfInBounds_toArray, List.set_cons_zero, List.set_cons_succ]))
            | (refine CanonL.val (v := ?_) (by rfl) ?_ ?_; rotate_left 1; (focus (intro w hSw; (try dsimp only at hSw); go_simp; (try (with_reducible rfl)); done)); (try simp only [Act.put, List.setIfInBounds_toArray, List.set_cons_zero, List.set_cons_succ]))
          refine CanonL.done ?_
          intro w9 hS9
          obtain ⟨_, _, f5⟩ := hS9
          go_wp2_with fail
          go_roundw
          case rel => exact ⟨k + 1, q2, by omega, by go_num, rfl, HN.out, f5⟩
          case measure => simp [intOf]; omega
        · have hst := Hout.out (by
            cases q with
            | false => exact .inl rfl
            | true => exact .inr (by simp at hgo; omega))
          have hqq : (q == q) = true := beq_self_eq_true _
          by_cases hlt : k < L.length
          · have hki : (k : Int) < L.length := by omega
            obtain rfl : q = false := by
              cases q with
              | false => rfl
              | true => exact absurd ⟨hlt, rfl⟩ hgo
            clear hgo
            go_wp2_with fail
            refine (wawake_any wr).mono ?_
            rintro e w9 ⟨rfl, g9⟩
            go_wp2_with fail
            go_ret
            exact ⟨rfl, (kr.trans fz).trans g9⟩
          · obtain rfl : k = L.length := by omega
            clear hgo
            cases q with
            | false =>
              go_wp2_with fail
              refine (wawake_any wr).mono ?_
              rintro e w9 ⟨rfl, g9⟩
              go_wp2_with fail
              go_ret
              exact ⟨rfl, (kr.trans fz).trans g9⟩
            | true =>
              go_wp2_with fail
              refine (wawake_any wr).mono ?_
              rintro e w9 ⟨rfl, g9⟩
              go_wp2_with fail
              go_ret
              exact ⟨rfl, (kr.trans fz).trans g9⟩
end Go.Proofs.Ytlajfmpgodcbmaa
