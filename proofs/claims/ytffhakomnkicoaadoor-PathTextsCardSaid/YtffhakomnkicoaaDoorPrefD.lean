/- What the document's Cut and Parse answer. No condition. -/
import Derived.Test.YtffhakomnkicoaaDoorPrefB
import Derived.Test.YtffhakomnkicoaaDoorMove
namespace Go.Proofs.YtffhakomnkicoaaDoor
open Go.RowKit

theorem bs_mid (l : List UInt8) (i j : Nat) : (bs l).extract i j = bs ((l.drop i).take (j - i)) := by
  apply ByteArray.ext
  apply Array.ext'
  simp [bs]
theorem cut_step {c : UInt8} {s : List UInt8} {f k : Nat} (hf : f ≤ k) (hk : k < s.length) (hn : c ∉ (s.drop f).take (k - f)) (hc : s[k] = c) : cut c (s.drop f) = (s.drop f).take (k - f) :: cut c (s.drop (k + 1)) := by
  have h : s.drop f = (s.drop f).take (k - f) ++ c :: s.drop (k + 1) := by
    have h1 : (s.drop f).drop (k - f) = c :: s.drop (k + 1) := by
      rw [List.drop_drop, show f + (k - f) = k by omega, List.drop_eq_getElem_cons hk, hc]
    rw [← h1, List.take_append_drop]
  have h2 := cut_app (c := c) (s.drop (k + 1)) hn
  rw [← h] at h2
  exact h2
theorem seg_step {c : UInt8} {s : List UInt8} {f k : Nat} (hf : f ≤ k) (hk : k < s.length) (hn : c ∉ (s.drop f).take (k - f)) (hc : s[k] ≠ c) : c ∉ (s.drop f).take (k + 1 - f) := by
  have hd : k - f < (s.drop f).length := by rw [List.length_drop]; omega
  rw [show k + 1 - f = (k - f) + 1 by omega, List.take_succ_eq_append_getElem hd]
  intro hm
  rcases List.mem_append.1 hm with hm | hm
  · exact hn hm
  · have e : c = (s.drop f)[k - f] := by simpa using hm
    rw [List.getElem_drop] at e
    have : f + (k - f) = k := by omega
    simp only [this] at e
    exact hc e.symm
theorem cut_len (c : UInt8) : ∀ s, (cut c s).length ≤ s.length + 1
  | [] => by simp [cut]
  | x :: r => by
    have ih := cut_len c r
    obtain ⟨h, t, e⟩ := cut_cons c r
    rw [e] at ih
    unfold cut
    split
    · rw [e]; simp at ih ⊢; omega
    · rw [e]; simp at ih ⊢; omega
set_option maxRecDepth 100000 in
set_option maxHeartbeats 2000000 in
theorem rcut_any (s : List UInt8) (c : UInt8) (q : Int) (hq : (c.toNat : Int) = q) (w : World) (hl : s.length ≤ 1000) :
    Calls Tryd.prog 40 #[.string (bs s), .int .u8 q] w (NewS (cut c s) w) := by
  have hlen := cut_len c s
  have hsz : (bs s).size = s.length := rfl
  go_enter Tryd.func40, Tryd.ntmps40
  go_wp2_with fail
  go_loopw [5, 6, 7] (fun o f i wr => ∃ (fr k : Nat) (done : List (List UInt8)), i = .int .i64 k ∧ f = .int .i64 fr ∧ OwnS wr o done ∧ Fr w wr ∧ (∀ g, o.ownBlock = some g → w.heap.size ≤ g) ∧ done.length ≤ k ∧
      Hid ((k ≤ s.length ∧ fr ≤ k ∧ cut c s = done ++ cut c (s.drop fr) ∧ c ∉ (s.drop fr).take (k - fr)) ∨ (k = s.length + 1 ∧ cut c s = done))) (fun _ _ i _ => s.length + 1 - (intOf i).toNat)
  case atStart => exact ⟨0, 0, [], rfl, rfl, OwnS.nil_ _, Frm.refl _ _, fun g hg => (by cases hg), Nat.le_refl _, Lib.hid (.inl ⟨Nat.zero_le _, Nat.le_refl _, by simp, by simp⟩)⟩
  case round =>
    obtain ⟨fr, k, done, rfl, rfl, ho, g4, hn, hdl, hrel⟩ := hrel
    rcases hrel.out with ⟨hk, hf, hcut, hseg⟩ | ⟨rfl, hcut⟩
    · have hki : (k : Int) ≤ (s.length : Int) := by omega
      have hk0 : (0 : Int) ≤ (k : Int) := by omega
      have hf0 : (fr : Int) ≤ (k : Int) := by omega
      obtain ⟨a, cap, rfl, hc1, hc2⟩ := Row.slice ho
      have key : ∀ x : List UInt8, ∃ v' w', (Builtin.append_ #[23, 23] 23 #[.slice a done.length cap, .slice (some ⟨wr.heap.size, 0, none⟩) 1 1]).run Tryd.prog (wr.alloc (.cells #[.string (bs x)] 9)) = .ok v' w' ∧ OwnS w' v' (done ++ [x]) ∧ Fr w w' ∧ ∀ g, v'.ownBlock = some g → w.heap.size ≤ g := fun x => by
        obtain ⟨v', w', hrun, hown, hgr, hnew⟩ := append_strs _ _ _ done [x] (ho.keep ((Frm.refl _ wr).alloc (.cells #[.string (bs x)] 9)) (fun _ _ h => h)) (Strs.one wr x) (by simp; omega)
        have g5 := g4.alloc (.cells #[.string (bs x)] 9)
        refine ⟨v', w', hrun, hown, g5.grown hgr (fun k hk e => by have := hn k e; omega), fun g hg => ?_⟩
        rcases hnew g hg with e | e
        · exact hn g e
        · exact Nat.le_trans g5.size e
      by_cases hlt : k < s.length
      · have hkn : k < (bs s).size := hlt
        have qk : ((k : Int) == (s.length : Int)) = false := by rw [beq_eq_false_iff_ne]; omega
        have hki2 : (k : Int) < (s.length : Int) := by omega
        by_cases hc : s[k]'hlt = c
        · have qc : (((bs s)[k].toNat : Int) == q) = true := by
            rw [beq_iff_eq, ← hq, ← hc]; rfl
          have hst := cut_step hf hlt hseg hc
          rw [hst] at hcut
          have hm := bs_mid s fr k
          obtain ⟨v', w', hrun, hown, g5, hnew⟩ := key ((s.drop fr).take (k - fr))
          have Hst := Lib.hid hcut
          have HR := Lib.hid hrun
          clear hcut hst hseg hrel hrun key hc
          generalize (s.drop fr).take (k - fr) = seg at *
          rw [← hm] at HR
          clear hm
          go_wp2_with (at_builtin; refine Lib.wpList_append_run _ rfl _ _ _ _ rfl _ _ rfl rfl _ _ HR.out ?_)
          go_roundw
          case rel => exact ⟨k + 1, k + 1, done ++ [seg], by go_num, by go_num, hown, g5, hnew, by simp; omega, Lib.hid (.inl ⟨by omega, Nat.le_refl _, by rw [Hst.out]; simp, by simp⟩)⟩
          case measure => simp [intOf]; omega
        · have qc : (((bs s)[k].toNat : Int) == q) = false := by
            rw [beq_eq_false_iff_ne, ← hq]
            intro e
            exact hc (UInt8.toNat_inj.1 (by exact_mod_cast e))
          have hsg := seg_step hf hlt hseg hc
          have H2 := Lib.hid hsg
          have Hcut := Lib.hid hcut
          clear hcut hsg hseg hrel key hc
          go_wp2_with fail
          go_roundw
          case rel => exact ⟨fr, k + 1, done, by go_num, rfl, ho, g4, hn, by omega, Lib.hid (.inl ⟨by omega, by omega, Hcut.out, H2.out⟩)⟩
          case measure => simp [intOf]; omega
      · obtain rfl : k = s.length := by omega
        have qk : ((s.length : Int) == (s.length : Int)) = true := beq_self_eq_true _
        have hm := bs_mid s fr s.length
        have hfull : (s.drop fr).take (s.length - fr) = s.drop fr := List.take_of_length_le (by rw [List.length_drop]; exact Nat.le_refl _)
        rw [hfull] at hm hseg
        rw [cut_free hseg] at hcut
        obtain ⟨v', w', hrun, hown, g5, hnew⟩ := key (s.drop fr)
        have Hst := Lib.hid hcut
        have HR := Lib.hid hrun
        clear hcut hseg hrel hrun key hfull
        generalize s.drop fr = seg at *
        rw [← hm] at HR
        clear hm
        go_wp2_with (at_builtin; refine Lib.wpList_append_run _ rfl _ _ _ _ rfl _ _ rfl rfl _ _ HR.out ?_)
        go_roundw
        case rel => exact ⟨s.length + 1, s.length + 1, done ++ [seg], by go_num, by go_num, hown, g5, hnew, by simp; omega, Lib.hid (.inr ⟨rfl, Hst.out⟩)⟩
        case measure => simp [intOf]
    · have hk1 : (s.length : Int) < ((s.length + 1 : Nat) : Int) := by omega
      have Hcut := Lib.hid hcut
      clear hcut hrel
      go_wp2_with fail
      go_ret
      exact ⟨_, rfl, by rw [Hcut.out]; exact ho, g4, hn⟩
/-- The answer of a call: texts to read, and a number. -/
def RdS (X : List (List UInt8) × Nat) (w : World) (e : Ending) (w' : World) : Prop := ∃ v, e = .returned (.tuple #[v, .int .i64 X.2]) ∧ Strs w' v X.1 ∧ Fr w w'
theorem cut_le (c : UInt8) (s : List UInt8) (t : List UInt8) (h : t ∈ cut c s) : t.length ≤ s.length := by
  induction s generalizing t with
  | nil =>
    obtain rfl : t = [] := by simpa [cut] using h
    simp
  | cons x r ih =>
    obtain ⟨a, u, e⟩ := cut_cons c r
    rw [e] at ih
    unfold cut at h
    split at h
    · rw [e] at h
      rcases List.mem_cons.1 h with rfl | h
      · simp
      · have := ih t h; simp; omega
    · rw [e] at h
      rcases List.mem_cons.1 h with rfl | h
      · have := ih a (by simp); simp; omega
      · have := ih t (by simp at h; simp [h]); simp; omega
set_option maxRecDepth 100000 in
set_option maxHeartbeats 2000000 in
theorem rparse_any (p : List UInt8) (w : World) (hl : p.length ≤ 1000) :
    Calls Tryd.prog 12 #[.string (bs p)] w (RdS (parse p) w) := by
  obtain ⟨X, hX⟩ : ∃ X, parse p = X := ⟨_, rfl⟩
  rw [hX]
  have HX := Lib.hid hX
  clear hX
  have hsz : (bs p).size = p.length := rfl
  by_cases h36 : 36 < p.length
  · have hX : X = ([], 3) := by rw [← HX.out]; unfold parse; rw [if_pos h36]
    have hp : (36 : Int) < (p.length : Int) := by omega
    go_enter Tryd.func12, Tryd.ntmps12
    go_wp2_with fail
    go_ret2
    subst hX
    exact ⟨_, rfl, Strs.none_ _, Frm.refl _ _⟩
  · have hp : (p.length : Int) ≤ 36 := by omega
    have HC := Lib.hid (fun w => by have := rcut_any p 47 47 rfl w hl; unfold NewS at this; exact this)
    obtain ⟨h0, t0, hcons⟩ := cut_cons 47 p
    have hcl := cut_le 47 p
    have hcn := cut_len 47 p
    obtain ⟨L, hL⟩ : ∃ L, cut 47 p = L := ⟨_, rfl⟩
    have hXL : X = (if L.length < 2 ∨ L.headD [] ≠ [] then ([], 4) else if p = [47] then ([], 0) else if walk 1 L.tail ≠ 0 then ([], walk 1 L.tail) else (L.tail, 0)) := by
      rw [← HX.out, ← hL]; unfold parse; rw [if_neg h36]
    rw [hL] at hcons hcl HC hcn
    have HXL := Lib.hid hXL
    have Hcl := Lib.hid hcl
    have Hcons := Lib.hid hcons
    clear hXL hcl HX hL hcons
    go_enter Tryd.func12, Tryd.ntmps12
    go_wp2_with fail
    refine (HC.out _).mono ?_
    rintro e w1 ⟨v, rfl, o1, f1, _⟩
    obtain ⟨a, cap, rfl, hc1, hc2⟩ := Row.slice o1
    unfold maxLen at hc2
    have s1 := o1.reads
    clear HC o1
    by_cases h2 : L.length < 2
    · have hX : X = ([], 4) := by rw [HXL.out, if_pos (.inl h2)]
      have q2 : (L.length : Int) < 2 := by omega
      go_wp2_with fail
      go_ret2
      subst hX
      exact ⟨_, rfl, Strs.none_ _, f1⟩
    · have q2 : (2 : Int) ≤ (L.length : Int) := by omega
      obtain ⟨b1, o1, rfl, _, c1⟩ := s1.at 0 (by omega)
      rw [Nat.add_zero] at c1
      have hL0 : L[0]'(by omega) = L.headD [] := by have := Hcons.out; subst this; rfl
      rw [hL0] at c1
      have q0 : (0 : Int) < (L.length : Int) := by omega
      by_cases hh : L.headD [] ≠ []
      · have hX : X = ([], 4) := by rw [HXL.out, if_pos (.inr hh)]
        have qh : ((bs (L.headD [])).toList == []) = false := by rw [bs_toList]; simpa using hh
        have qh2 : ¬ (bs (L.headD [])).toList = [] := by rw [bs_toList]; exact hh
        generalize L.headD [] = hd at *
        go_wp2_with fail
        go_ret2
        subst hX
        exact ⟨_, rfl, Strs.none_ _, f1⟩
      · have hh2 : L.headD [] = [] := Classical.not_not.1 hh
        rw [hh2] at c1
        have qe : (bs []).toList = [] := bs_toList _
        by_cases h47 : p = [47]
        · have hX : X = ([], 0) := by rw [HXL.out, if_neg (fun e => e.elim h2 hh), if_pos h47]
          have qp : (bs p).toList = [47] := by rw [bs_toList]; exact h47
          clear h47
          go_wp2_with fail
          go_ret2
          subst hX
          exact ⟨_, rfl, Strs.none_ _, f1⟩
        · have hX : X = (if walk 1 L.tail ≠ 0 then ([], walk 1 L.tail) else (L.tail, 0)) := by rw [HXL.out, if_neg (fun e => e.elim h2 hh), if_neg h47]
          have qp : ¬ (bs p).toList = [47] := by rw [bs_toList]; exact h47
          have qp2 : ((bs p).toList == [47]) = false := by rw [bs_toList]; simpa using h47
          have HX2 := Lib.hid hX
          clear h47 hX hh hh2 hL0 HXL
          have hd1 : L.drop 1 = L.tail := by simp
          have Hd1 := Lib.hid hd1
          clear hd1
          go_wp2_with fail
          go_loopw [5] (fun i wr => ∃ k : Nat, 1 ≤ k ∧ k ≤ L.length ∧ i = .int .i64 k ∧ Fr w wr ∧ Fr w1 wr ∧ Hid (walk 1 L.tail = walk k (L.drop k))) (fun i _ => L.length - (intOf i).toNat)
          case atStart => exact ⟨1, Nat.le_refl _, by omega, rfl, f1, Frm.refl _ _, Lib.hid (by rw [Hd1.out])⟩
          case round =>
            clear f1
            obtain ⟨k, hk1, hk, rfl, f2, f3, hwk⟩ := hrel
            by_cases hlt : k < L.length
            · obtain ⟨b2, o2, eq, _, d1⟩ := (s1.keepF f3).at k hlt
              cases eq
              have hki : (k : Int) < (L.length : Int) := by omega
              have hk0 : (0 : Int) ≤ (k : Int) := by omega
              have hds : L.drop k = L[k] :: L.drop (k + 1) := List.drop_eq_getElem_cons hlt
              have hc := fun w => rcheck_any L[k] w (by have := Hcl.out L[k] (List.getElem_mem hlt); omega)
              by_cases he : chk L[k] = 0
              · rw [he] at hc
                have Hc := Lib.hid hc
                by_cases h4 : 4 < k
                · have hX : X = ([], 3) := by
                    have e : walk 1 L.tail = 3 := by rw [hwk.out, hds, walk, if_neg (by simp [he]), if_pos h4]
                    rw [HX2.out, e]; rfl
                  have h4i : (4 : Int) < (k : Int) := by omega
                  clear hc he hds
                  generalize L[k] = s at *
                  go_wp2_with fail
                  refine (Hc.out _).mono ?_
                  rintro e w2 ⟨rfl, g1⟩
                  go_wp2_with fail
                  go_ret2
                  subst hX
                  exact ⟨_, rfl, Strs.none_ _, f2.trans g1⟩
                · have h4i : (k : Int) ≤ 4 := by omega
                  have hw2 : Hid (walk 1 L.tail = walk (k + 1) (L.drop (k + 1))) := Lib.hid (by rw [hwk.out, hds, walk, if_neg (by simp [he]), if_neg h4])
                  clear hc he hds
                  generalize L[k] = s at *
                  go_wp2_with fail
                  refine (Hc.out _).mono ?_
                  rintro e w2 ⟨rfl, g1⟩
                  go_wp2_with fail
                  go_roundw
                  case rel => exact ⟨k + 1, by omega, by omega, by go_num, f2.trans g1, f3.trans g1, hw2⟩
                  case measure => simp [intOf]; omega
              · have hX : X = ([], chk L[k]) := by
                  have e : walk 1 L.tail = chk L[k] := by rw [hwk.out, hds, walk, if_pos he]
                  rw [HX2.out, e, if_pos he]
                obtain ⟨c, hcc⟩ : ∃ c, chk L[k] = c := ⟨_, rfl⟩
                rw [hcc] at hc he hX
                have q : ((c : Int) != 0) = true := by rw [bne_iff_ne]; omega
                have Hc := Lib.hid hc
                clear hc he hcc hds
                generalize L[k] = s at *
                go_wp2_with fail
                refine (Hc.out _).mono ?_
                rintro e w2 ⟨rfl, g1⟩
                go_wp2_with fail
                go_ret2
                subst hX
                exact ⟨_, rfl, Strs.none_ _, f2.trans g1⟩
            · have hkl : k = L.length := by omega
              have hX : X = (L.tail, 0) := by
                have e : walk 1 L.tail = 0 := by rw [hwk.out, hkl, List.drop_length]; rfl
                rw [HX2.out, e]; rfl
              have hB := (s1.keepF f3).behind 1 (by omega)
              rw [if_neg (by omega), Hd1.out] at hB
              have HB := Lib.hid hB
              have li : (1 : Int) ≤ (cap : Int) := by omega
              have li3 : ¬ cap = 1 := by omega
              have li2 : (1 : Int) ≤ (L.length : Int) := by omega
              subst hkl
              clear hB
              go_wp2_with fail
              go_ret2
              subst hX
              exact ⟨_, rfl, HB.out, f2⟩
end Go.Proofs.YtffhakomnkicoaaDoor
