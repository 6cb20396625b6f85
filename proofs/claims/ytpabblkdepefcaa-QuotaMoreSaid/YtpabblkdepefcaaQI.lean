/- The document's Oldest, and what goes by it: the mathematics, and the walk. No condition but that there are at most a million items. -/
import Derived.Test.YtpabblkdepefcaaQH
namespace Go.Proofs.Ytpabblkdepefcaa
open Go.RowKit Go.Shelf
/-- The places ascend. -/
def IncQ (R : List QG) : Prop := R.Pairwise fun x y => x.2 < y.2
theorem IncQ.apt {R : List QG} (h : IncQ R) : Apt R := List.Pairwise.imp (fun h => by omega) h
theorem IncQ.lt {R : List QG} (h : IncQ R) {i k : Nat} (hi : i < R.length) (hk : k < R.length) : R[i].2 < R[k].2 ↔ i < k := by
  have hp := List.pairwise_iff_getElem.1 h
  constructor
  · intro h1
    rcases Nat.lt_trichotomy i k with h2 | h2 | h2
    · exact h2
    · subst h2; omega
    · have := hp k i hk hi h2; omega
  · exact hp i k hi hk
theorem old_ghost {R : List QG} {l : List QI} (hR : R.map (·.1) = l) (h : IncQ R) {i k : Nat} (hi : i < l.length) (hk : k < l.length) (hi' : i < R.length) (hk' : k < R.length) : oldQ (l[i], i) (l[k], k) = oldQ R[i] R[k] := by
  have e1 : l[i] = R[i].1 := by subst hR; simp
  have e2 : l[k] = R[k].1 := by subst hR; simp
  have e3 := h.lt hi' hk'
  rw [Bool.eq_iff_iff, oldQ_iff, oldQ_iff]
  simp only [e1, e2]
  omega
theorem spr_ghost {R : List QG} {l : List QI} (hR : R.map (·.1) = l) (h : IncQ R) {i : Nat} (hi : i < l.length) (hi' : i < R.length) : R[i] ∈ sprQ (srtQ R) ↔ newestB l i hi = false := by
  have hl : l.length = R.length := by rw [← hR, List.length_map]
  rw [sprQ_mem (srtQ_asc h.apt)]
  constructor
  · rintro ⟨_, z, hz, hp, ho⟩
    obtain ⟨k, hk, rfl⟩ := List.getElem_of_mem ((srtQ_perm R).mem_iff.1 hz)
    refine newestB_no (k := k) hi (by omega) ?_ (by rw [old_ghost hR h hi (by omega) hi' hk]; exact ho)
    subst hR
    simp only [List.getElem_map]
    exact hp
  · intro hn
    refine ⟨(srtQ_perm R).mem_iff.2 (List.getElem_mem hi'), ?_⟩
    refine Classical.byContradiction fun hc => ?_
    rw [newestB_yes hi (fun k hk hp => ?_)] at hn
    · cases hn
    · rw [old_ghost hR h hi hk hi' (by omega)]
      cases ho : oldQ R[i] R[k] with
      | false => rfl
      | true =>
        refine absurd ⟨R[k], (srtQ_perm R).mem_iff.2 (List.getElem_mem _), ?_, ho⟩ hc
        subst hR
        simpa using hp
/-- What Oldest answers. -/
def OldTo (l : List QI) (r : Int) : Prop :=
  (r = -1 ∧ ∀ q (hq : q < l.length), newestB l q hq = true) ∨ ∃ b, ∃ hb : b < l.length, r = (b : Int) ∧ newestB l b hb = false ∧ ∀ q (hq : q < l.length), newestB l q hq = false → oldQ (l[q], q) (l[b], b) = false
theorem OldTo.none_ {R : List QG} {l : List QI} (hR : R.map (·.1) = l) (h : IncQ R) (ho : ∀ q (hq : q < l.length), newestB l q hq = true) : sprQ (srtQ R) = [] := by
  have hl : l.length = R.length := by rw [← hR, List.length_map]
  refine List.eq_nil_iff_forall_not_mem.2 fun x hx => ?_
  have hm := (srtQ_perm R).mem_iff.1 ((sprQ_sub _).subset hx)
  obtain ⟨i, hi, rfl⟩ := List.getElem_of_mem hm
  have := (spr_ghost hR h (by omega) hi).1 hx
  rw [ho i (by omega)] at this
  cases this
theorem OldTo.some_ {R : List QG} {l : List QI} (hR : R.map (·.1) = l) (h : IncQ R) {b : Nat} (hb : b < l.length) (hb' : b < R.length) (hn : newestB l b hb = false) (ho : ∀ q (hq : q < l.length), newestB l q hq = false → oldQ (l[q], q) (l[b], b) = false) :
    ∃ t, sprQ (srtQ R) = R[b] :: t := by
  have hl : l.length = R.length := by rw [← hR, List.length_map]
  have hm := (spr_ghost hR h hb hb').2 hn
  have hasc : AscQ (sprQ (srtQ R)) := (srtQ_asc h.apt).sublist (sprQ_sub _)
  have hsub := (sprQ_sub (srtQ R)).subset
  cases hs : sprQ (srtQ R) with
  | nil => rw [hs] at hm; cases hm
  | cons x t =>
    rw [hs] at hm hasc
    have hx : x ∈ sprQ (srtQ R) := by rw [hs]; exact List.mem_cons_self
    obtain ⟨q, hq, rfl⟩ := List.getElem_of_mem ((srtQ_perm R).mem_iff.1 (hsub hx))
    have hqn := (spr_ghost hR h (by omega) hq).1 hx
    have h1 := ho q (by omega) hqn
    rw [old_ghost hR h (by omega) hb hq hb'] at h1
    rcases List.mem_cons.1 hm with e | e
    · exact ⟨t, by rw [e]⟩
    · have := (List.pairwise_cons.1 hasc).1 _ e
      rw [this] at h1
      cases h1
theorem erase_at : ∀ (R : List QG) (b : Nat) (hb : b < R.length), R.Nodup → R.erase R[b] = R.eraseIdx b := by
  intro R
  induction R with
  | nil => intro b hb; simp at hb
  | cons x R ih =>
    intro b hb hn
    obtain ⟨h1, h2⟩ := List.nodup_cons.1 hn
    cases b with
    | zero => simp
    | succ b =>
      have hb' : b < R.length := by simpa using hb
      have hne : (x == R[b]) = false := by
        rw [beq_eq_false_iff_ne]
        intro e
        exact h1 (e ▸ List.getElem_mem hb')
      rw [List.getElem_cons_succ, List.erase_cons_tail (by rw [hne]; simp), List.eraseIdx_cons_succ, ih b hb' h2]
theorem goQ_step {R : List QG} (h : IncQ R) {b : Nat} (hb : b < R.length) {t : List QG} (hs : sprQ (srtQ R) = R[b] :: t) : sprQ (srtQ (R.eraseIdx b)) = t ∧ IncQ (R.eraseIdx b) := by
  have he : R.eraseIdx b = R.erase R[b] := by
    exact (erase_at R b hb h.apt.nodup).symm
  refine ⟨?_, h.sublist (List.eraseIdx_sublist _ _)⟩
  rw [he, srtQ_erase h.apt]
  exact sprQ_erase _ _ _ hs (h.apt.nodup.perm (srtQ_perm R).symm)
set_option maxRecDepth 100000 in
set_option maxHeartbeats 4000000 in
theorem roldest_any (v : Value) (l : List QI) (w : World) (h : QL w v l) : Calls Try.prog 23 #[v] w fun e w' => ∃ r, e = .returned (.int .i64 r) ∧ OldTo l r ∧ Frm (fun _ => False) w w' := by
  obtain ⟨a, cap, rfl, hc1, hc2⟩ := h.slice
  unfold maxLen at hc2
  have HL := Lib.hid h
  clear h
  go_enter Try.func23, Try.ntmps23
  go_wp2_with fail
  go_loopw [3, 4] (fun bv j wr => ∃ k : Nat, ∃ r : Int, k ≤ l.length ∧ j = .int .i64 k ∧ bv = .int .i64 r ∧ Frm (fun _ => False) w wr ∧ Hid ((r = -1 ∧ ∀ q (hq : q < l.length), q < k → newestB l q hq = true) ∨ ∃ b, ∃ hb : b < l.length, r = (b : Int) ∧ newestB l b hb = false ∧ ∀ q (hq : q < l.length), q < k → newestB l q hq = false → oldQ (l[q], q) (l[b], b) = false)) (fun _ j _ => l.length - (intOf j).toNat)
  case atStart => exact ⟨0, -1, Nat.zero_le _, rfl, rfl, Frm.refl _ _, .inl ⟨rfl, fun q _ h => by omega⟩⟩
  case round =>
    obtain ⟨k, r, hk, rfl, rfl, g1, HP⟩ := hrel
    have G1 := Lib.hid g1
    clear g1
    by_cases hlt : k < l.length
    · have hki : (k : Int) < (l.length : Int) := by omega
      have HN := Lib.hid (rnewest_any (.slice a l.length cap) l k wr (HL.out.keepF G1.out) hlt)
      cases hn : newestB l k hlt with
      | true =>
        rw [hn] at HN
        have HNN := Lib.hid hn
        clear hn
        go_wp2_with fail
        refine HN.out.mono ?_
        rintro e w2 ⟨rfl, g2⟩
        have G2 := Lib.hid (G1.out.trans g2)
        clear g2
        go_wp2_with fail
        go_roundw
        case rel =>
          refine ⟨k + 1, r, hlt, by go_num, rfl, G2.out, ?_⟩
          rcases HP.out with ⟨h1, h2⟩ | ⟨b, hb2, h1, h2, h3⟩
          · refine .inl ⟨h1, fun q hq hqk => ?_⟩
            rcases Nat.lt_or_ge q k with h | h
            · exact h2 q hq h
            · obtain rfl : q = k := by omega
              exact HNN.out
          · refine .inr ⟨b, hb2, h1, h2, fun q hq hqk hqn => ?_⟩
            rcases Nat.lt_or_ge q k with h | h
            · exact h3 q hq h hqn
            · obtain rfl : q = k := by omega
              rw [HNN.out] at hqn; cases hqn
        case measure => simp [intOf]; omega
      | false =>
        rw [hn] at HN
        have HNN := Lib.hid hn
        clear hn
        rcases HP.out with ⟨rfl, h2⟩ | ⟨b, hb2, rfl, h2, h3⟩
        · have H2 := Lib.hid h2
          clear h2
          go_wp2_with fail
          refine HN.out.mono ?_
          rintro e w2 ⟨rfl, g2⟩
          have G2 := Lib.hid (G1.out.trans g2)
          clear g2
          go_wp2_with fail
          go_roundw
          case rel =>
            refine ⟨k + 1, k, hlt, by go_num, by go_num, G2.out, .inr ⟨k, hlt, rfl, HNN.out, fun q hq hqk hqn => ?_⟩⟩
            rcases Nat.lt_or_ge q k with h | h
            · rw [H2.out q hq h] at hqn; cases hqn
            · obtain rfl : q = k := by omega
              exact oldQ_swo.irrefl _
          case measure => simp [intOf]; omega
        · have hb0 : ¬ (b : Int) < 0 := by omega
          have H3 := Lib.hid (And.intro h2 h3)
          clear h2 h3
          cases ho : oldQ (l[k], k) (l[b], b) with
          | true =>
            have HO := Lib.hid ho
            clear ho
            go_wp2_with fail
            refine HN.out.mono ?_
            rintro e w2 ⟨rfl, g2⟩
            have HC := Lib.hid (rolder_any (.slice a l.length cap) l k b w2 (HL.out.keepF (G1.out.trans g2)) hlt hb2)
            rw [HO.out] at HC
            have G2 := Lib.hid (G1.out.trans g2)
            clear g2
            go_wp2_with fail
            refine HC.out.mono ?_
            rintro e w3 ⟨rfl, q3, hw3⟩
            have G3 := Lib.hid (show Frm (fun _ => False) w w3 by rw [hw3]; exact G2.out.drewN _)
            clear hw3
            go_wp2_with fail
            go_roundw
            case rel =>
              refine ⟨k + 1, k, hlt, by go_num, by go_num, G3.out, .inr ⟨k, hlt, rfl, HNN.out, fun q hq hqk hqn => ?_⟩⟩
              rcases Nat.lt_or_ge q k with h | h
              · have h5 := H3.out.2 q hq h hqn
                cases h6 : oldQ (l[q], q) (l[k], k) with
                | false => rfl
                | true => rw [oldQ_swo.trans _ _ _ h6 HO.out] at h5; cases h5
              · obtain rfl : q = k := by omega
                exact oldQ_swo.irrefl _
            case measure => simp [intOf]; omega
          | false =>
            have HO := Lib.hid ho
            clear ho
            go_wp2_with fail
            refine HN.out.mono ?_
            rintro e w2 ⟨rfl, g2⟩
            have HC := Lib.hid (rolder_any (.slice a l.length cap) l k b w2 (HL.out.keepF (G1.out.trans g2)) hlt hb2)
            rw [HO.out] at HC
            have G2 := Lib.hid (G1.out.trans g2)
            clear g2
            go_wp2_with fail
            refine HC.out.mono ?_
            rintro e w3 ⟨rfl, q3, hw3⟩
            have G3 := Lib.hid (show Frm (fun _ => False) w w3 by rw [hw3]; exact G2.out.drewN _)
            clear hw3
            go_wp2_with fail
            go_roundw
            case rel =>
              refine ⟨k + 1, b, hlt, by go_num, rfl, G3.out, .inr ⟨b, hb2, rfl, H3.out.1, fun q hq hqk hqn => ?_⟩⟩
              rcases Nat.lt_or_ge q k with h | h
              · exact H3.out.2 q hq h hqn
              · obtain rfl : q = k := by omega
                exact HO.out
            case measure => simp [intOf]; omega
    · obtain rfl : k = l.length := by omega
      go_wp2_with fail
      go_ret
      refine ⟨r, rfl, ?_, G1.out⟩
      rcases HP.out with ⟨h1, h2⟩ | ⟨b, hb2, h1, h2, h3⟩
      · exact .inl ⟨h1, fun q hq => h2 q hq hq⟩
      · exact .inr ⟨b, hb2, h1, h2, fun q hq => h3 q hq hq⟩
end Go.Proofs.Ytpabblkdepefcaa
