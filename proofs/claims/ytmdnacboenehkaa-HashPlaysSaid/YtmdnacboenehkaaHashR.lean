/- What the document's index does: a list of what came. No condition. -/
import Derived.Test.YtmdnacboenehkaaHashP
import Derived.Deep.RegionLaw
import Derived.Deep.RegionWith
namespace Go.Proofs.Ytmdnacboenehkaa
open Go.RowKit

/-- Items, as cells: two each. -/
def itmsC (I : List (Nat × Nat)) : List Value := I.flatMap fun p => [.int .i64 p.1, .int .u32 p.2]
theorem itmsC_len (I : List (Nat × Nat)) : (itmsC I).length = I.length * 2 := by
  induction I with
  | nil => rfl
  | cons p I ih => show (itmsC I).length + 1 + 1 = _; rw [ih]; simp; omega
theorem itmsC_append (I J : List (Nat × Nat)) : itmsC (I ++ J) = itmsC I ++ itmsC J := by simp [itmsC]
theorem itmsC_one (I : List (Nat × Nat)) : ∀ u ∈ itmsC I, u.oneCell' = true := fun u hu => by
  obtain ⟨p, _, h⟩ := List.mem_flatMap.1 hu
  simp at h
  rcases h with rfl | rfl <;> rfl
theorem itmsC_at (I : List (Nat × Nat)) : ∀ (k : Nat) (h : k < I.length), (itmsC I)[k * 2]? = some (.int .i64 I[k].1) ∧ (itmsC I)[k * 2 + 1]? = some (.int .u32 I[k].2) := by
  induction I with
  | nil => intro k h; simp at h
  | cons p I ih =>
    intro k h
    cases k with
    | zero => exact ⟨rfl, rfl⟩
    | succ k =>
      have h2 : k < I.length := by simpa using h
      have e : (k + 1) * 2 = k * 2 + 1 + 1 := by omega
      rw [e]
      exact ih k h2
theorem itmsC_take (I : List (Nat × Nat)) : ∀ k, (itmsC I).take (k * 2) = itmsC (I.take k) := by
  induction I with
  | nil => intro k; simp [itmsC]
  | cons p I ih =>
    intro k
    cases k with
    | zero => rfl
    | succ k =>
      have e : (k + 1) * 2 = k * 2 + 1 + 1 := by omega
      rw [e, List.take_succ_cons]
      show _ :: _ :: (itmsC I).take (k * 2) = _
      rw [ih k]; rfl
theorem itmsC_drop (I : List (Nat × Nat)) : ∀ k, (itmsC I).drop (k * 2) = itmsC (I.drop k) := by
  induction I with
  | nil => intro k; simp [itmsC]
  | cons p I ih =>
    intro k
    cases k with
    | zero => rfl
    | succ k =>
      have e : (k + 1) * 2 = k * 2 + 1 + 1 := by omega
      rw [e]
      show (itmsC I).drop (k * 2) = _
      rw [ih k]; rfl
/-- A slice of items, only read. -/
def Its (w : World) (v : Value) (I : List (Nat × Nat)) : Prop := Sl w 2 v I.length (itmsC I)
/-- A slice of items of the index's own. -/
def OwnI (w : World) (v : Value) (I : List (Nat × Nat)) : Prop := Row w 2 v I.length (itmsC I)
theorem OwnI.its {w : World} {v : Value} {I : List (Nat × Nat)} (h : OwnI w v I) : Its w v I := Sl.ofRow h
theorem OwnI.keep {X : Nat → Prop} {w w' : World} {v : Value} {I : List (Nat × Nat)} (h : OwnI w v I) (hf : Frm X w w') (hn : ∀ g, v.ownBlock = some g → ¬ X g) : OwnI w' v I := Row.keep h hf hn
theorem Its.keepF {w w' : World} {v : Value} {I : List (Nat × Nat)} (h : Its w v I) (hf : Frm (fun _ => False) w w') : Its w' v I := Sl.keepF h hf
theorem OwnI.at {w : World} {v : Value} {I : List (Nat × Nat)} (h : OwnI w v I) (k : Nat) (hk : k < I.length) : ∃ g cap, v = .slice (some ⟨g, 0, none⟩) I.length cap ∧ I.length ≤ cap ∧ cap ≤ maxLen ∧
    w.cell? ⟨g, k * 2, none⟩ = some (.int .i64 I[k].1) ∧ w.cell? ⟨g, k * 2 + 1, none⟩ = some (.int .u32 I[k].2) := by
  obtain ⟨a1, a2⟩ := itmsC_at I k hk
  rcases h.2 with ⟨_, e⟩ | ⟨g, cap, rfl, h1, h2, h3, h4, h5⟩
  · omega
  · exact ⟨g, cap, rfl, h1, h2, by rw [h4 _ (by omega), a1], by rw [h4 _ (by omega), a2]⟩
theorem Try.info59 : (Try.prog.info? 59).map (fun i => (i.zero, i.size, i.bytes)) = some (some (.agg #[.int .i64 0, .int .u32 0]), 2, 16) := by kernel_rfl
/-- Items are appended. -/
theorem append_itms (w : World) (v x : Value) (l m : List (Nat × Nat)) (h : OwnI w v l) (hs : Its w x m) (hb : l.length + m.length ≤ 1000000) :
    ∃ v' w', (Builtin.append_ #[31, 31] 31 #[v, x]).run Try.prog w = .ok v' w' ∧ OwnI w' v' (l ++ m) ∧ w.grownBy w' v.ownBlock ∧ (∀ g, v'.ownBlock = some g → v.ownBlock = some g ∨ w.heap.size ≤ g) := by
  obtain ⟨i0, hi, hz0, hz1, hz2⟩ := info_parts Try.info59
  obtain ⟨v', w', h1, h2, h3, h4⟩ := run_append_row w 31 31 31 59 i0 (.agg #[.int .i64 0, .int .u32 0]) 2 16 Try.underlying31 hi hz0 hz1 hz2 rfl h x m.length (itmsC m)
    (Sl.src hs Try.underlying31 (itmsC_one m)) (by unfold maxLen; omega) (by omega)
  exact ⟨v', w', h1, by unfold OwnI; rw [List.length_append, itmsC_append]; exact h2, h3, h4⟩
theorem Its.one (w : World) (b x : Nat) : Its (w.alloc (.cells #[.int .i64 b, .int .u32 x] 59)) (.slice (some ⟨w.heap.size, 0, none⟩) 1 1) [(b, x)] := by
  refine ⟨rfl, _, 1, rfl, Nat.le_refl _, by decide, .inr ⟨_, 0, rfl, by simp, fun j hj => ?_⟩⟩
  have hb := Blk.alloc w 59 #[.int .i64 b, .int .u32 x]
  have : j = 0 ∨ j = 1 := by simp at hj; omega
  rcases this with rfl | rfl
  · exact hb.cell 0 rfl
  · exact hb.cell 1 rfl

/-- The document's index, and what its blocks are among. -/
def Rf (w : World) (r : Nat) (I : List (Nat × Nat)) (fq : Nat → Prop) : Prop :=
  (∀ k, fq k → k < w.heap.size) ∧ fq r ∧ ∃ v, Blk w r 33 #[v] ∧ OwnI w v I ∧ ∀ g, v.ownBlock = some g → fq g ∧ g ≠ r
theorem Rf.keep {X : Nat → Prop} {w w' : World} {r : Nat} {I : List (Nat × Nat)} {fq : Nat → Prop} (h : Rf w r I fq) (hf : Frm X w w') (hn : ∀ k, fq k → ¬ X k) : Rf w' r I fq := by
  obtain ⟨h1, h2, v, h3, h4, h5⟩ := h
  exact ⟨fun k hk => Nat.lt_of_lt_of_le (h1 k hk) hf.size, h2, v, h3.keep hf (hn r h2), h4.keep hf (fun g hg => hn g (h5 g hg).1), h5⟩
theorem Frm.cellF {w w' : World} {a : Addr} {v : Value} (h : Frm (fun _ => False) w w') (hc : w.cell? a = some v) : w'.cell? a = some v :=
  (World.cell?_of_block (h.block a.block (World.block_lt_of_cell? w a hc) (fun h => h))).trans hc

set_option maxRecDepth 100000 in
set_option maxHeartbeats 4000000 in
theorem at_yes (r : Nat) (I : List (Nat × Nat)) (fq : Nat → Prop) (s : List UInt8) (x : Nat) (w : World) (h : Rf w r I fq) (hs : s.length ≤ 9223372036854775807) (hm : (bk s, x) ∈ I) :
    Calls Try.prog 31 #[.pointer (some ⟨r, 0, none⟩), .string (bs s), .int .u32 x] w fun e w' => e = .returned (.int .i64 (idx (bk s, x) I : Nat)) ∧ Frm (fun _ => False) w w' := by
  obtain ⟨_, _, v, hb, ho, _⟩ := h
  have hi := idx_lt hm
  have hat : ∀ hj : idx (bk s, x) I < I.length, I[idx (bk s, x) I]'hj = (bk s, x) := fun _ => idx_at hm
  have hbef : ∀ j (hj : j < I.length), j < idx (bk s, x) I → I[j] ≠ (bk s, x) := fun j hj h => before_idx hj h
  have hB : ∀ W, Calls Try.prog 9 #[.string (bs s)] W fun e w' => e = .returned (.int .i64 (bk s : Nat)) ∧ Frm (fun _ => False) W w' := fun W => rbucket_any s W hs
  clear hm
  generalize idx (bk s, x) I = i at *
  generalize bk s = k0 at *
  have Hat := Lib.hid hat
  have Hbef := Lib.hid hbef
  have HB := Lib.hid hB
  clear hat hbef hB
  obtain ⟨g, cap, rfl, hc1, hc2, _, _⟩ := ho.at i hi
  have HO := Lib.hid ho
  unfold maxLen at hc2
  go_enter Try.func31, Try.ntmps31
  go_wp2
  go_loopw [7] (fun j wr => ∃ k : Nat, k ≤ i ∧ j = .int .i64 k ∧ Frm (fun _ => False) w wr) (fun j _ => i + 1 - (intOf j).toNat)
  case atStart => exact ⟨0, Nat.zero_le _, rfl, Frm.refl _ _⟩
  case round =>
    obtain ⟨k, hk, rfl, f1⟩ := hrel
    have hk2 : k < I.length := by omega
    obtain ⟨g', cap', e', _, _, c1, c2⟩ := (HO.out.keep f1 (fun _ _ h => h)).at k hk2
    cases e'
    have c0 := (hb.keep f1 (fun h => h)).cell 0 rfl
    have hk0 : (0 : Int) ≤ (k : Int) := by omega
    have hki : (k : Int) < (I.length : Int) := by omega
    go_wp2_with fail
    have HS : ∀ W, Frm (fun _ => False) wr W → W.cell? ⟨r, 0, none⟩ = some (.slice (some ⟨g, 0, none⟩) I.length cap) ∧ W.cell? ⟨g, k * 2, none⟩ = some (.int .i64 I[k].1) ∧ W.cell? ⟨g, k * 2 + 1, none⟩ = some (.int .u32 I[k].2) ∧ Frm (fun _ => False) wr W :=
      fun W hW => ⟨hW.cellF c0, hW.cellF c1, hW.cellF c2, hW⟩
    have hC : Calls Try.prog 9 #[.string (bs s)] wr.drew fun e W => e = .returned (.int .i64 (k0 : Nat)) ∧ W.cell? ⟨r, 0, none⟩ = some (.slice (some ⟨g, 0, none⟩) I.length cap) ∧ W.cell? ⟨g, k * 2, none⟩ = some (.int .i64 I[k].1) ∧ W.cell? ⟨g, k * 2 + 1, none⟩ = some (.int .u32 I[k].2) ∧ Frm (fun _ => False) wr W :=
      (HB.out _).mono fun e W ⟨h1, h2⟩ => ⟨h1, HS W ((Frm.refl _ wr).drew.trans h2)⟩
    have HC := Lib.hid hC
    have f0 := Frm.refl (fun _ => False) wr
    clear hC HS
    by_cases hkb : I[k].1 = k0
    · have hq1 : ((I[k].1 : Int) == (k0 : Int)) = true := by rw [hkb]; exact beq_self_eq_true _
      have HKB := Lib.hid hkb
      clear hkb
      by_cases hkx : I[k].2 = x
      · have hq2 : ((I[k].2 : Int) == (x : Int)) = true := by rw [hkx]; exact beq_self_eq_true _
        have hki2 : k = i := by
          rcases Nat.lt_or_ge k i with h | h
          · exact absurd (Prod.ext HKB.out hkx) (Hbef.out k hk2 h)
          · omega
        have HKI := Lib.hid hki2
        clear hki2 hkx
        go_region_held3 (fun w' => w'.cell? ⟨r, 0, none⟩ = some (.slice (some ⟨g, 0, none⟩) I.length cap) ∧ w'.cell? ⟨g, k * 2, none⟩ = some (.int .i64 I[k].1) ∧ w'.cell? ⟨g, k * 2 + 1, none⟩ = some (.int .u32 I[k].2) ∧ Frm (fun _ => False) wr w')
          (((try dsimp only); (try go_split_ands); (repeat' apply And.intro) <;> (first
            | assumption
            | exact Frm.drew (by assumption)
            | exact Frm.cellF gg (by assumption)
            | (refine Frm.trans ?_ gg; assumption)
            | go_keep)))
          (first
            | (go_at_call 9; (with_reducible refine (HB.out _).mono ?_); rintro e ww ⟨rfl, gg⟩))
        rename_i hh
        obtain ⟨_, _, _, gg2⟩ := hh
        all_goals
          go_wp2_with fail
          go_ret
          exact ⟨ret_int (by rw [HKI.out]), f1.trans gg2⟩
      · have hq2 : ((I[k].2 : Int) == (x : Int)) = false := by rw [beq_eq_false_iff_ne]; omega
        have hne : k ≠ i := fun e => by subst e; exact hkx (by rw [Hat.out])
        clear hkx
        go_region_held3 (fun w' => w'.cell? ⟨r, 0, none⟩ = some (.slice (some ⟨g, 0, none⟩) I.length cap) ∧ w'.cell? ⟨g, k * 2, none⟩ = some (.int .i64 I[k].1) ∧ w'.cell? ⟨g, k * 2 + 1, none⟩ = some (.int .u32 I[k].2) ∧ Frm (fun _ => False) wr w')
          (((try dsimp only); (try go_split_ands); (repeat' apply And.intro) <;> (first
            | assumption
            | exact Frm.drew (by assumption)
            | exact Frm.cellF gg (by assumption)
            | (refine Frm.trans ?_ gg; assumption)
            | go_keep)))
          (first
            | (go_at_call 9; (with_reducible refine (HB.out _).mono ?_); rintro e ww ⟨rfl, gg⟩))
        rename_i hh
        obtain ⟨_, _, _, gg2⟩ := hh
        all_goals
          go_wp2_with fail
          go_roundw
          case rel => exact ⟨k + 1, by omega, by go_num, f1.trans gg2⟩
          case measure => simp [intOf]; omega
    · have hq1 : ((I[k].1 : Int) == (k0 : Int)) = false := by rw [beq_eq_false_iff_ne]; omega
      have hne : k ≠ i := fun e => by subst e; exact hkb (by rw [Hat.out])
      clear hkb
      refine wp_region_held_drew (S := (fun w' : World => w'.cell? ⟨r, 0, none⟩ = some (.slice (some ⟨g, 0, none⟩) I.length cap) ∧ w'.cell? ⟨g, k * 2, none⟩ = some (.int .i64 I[k].1) ∧ w'.cell? ⟨g, k * 2 + 1, none⟩ = some (.int .u32 I[k].2) ∧ Frm (fun _ => False) wr w')) (by kernel_rfl) ⟨c0, c1, c2, f0.drew⟩ (fun hHeld => ?_)
      refine wpAnyH_take (i := 0) (v := ?_) rfl (by kernel_rfl) (by kernel_rfl) (by kernel_rfl) (fun _ _ _ h => h) (Or.inl ⟨by rfl, ?z0⟩) (by assumption) ?_
      case z0 =>
        intro w hSw
        (try dsimp only at hSw)
        go_simp
        try (with_reducible rfl)
      try simp only [Act.put, List.getElem_toArray, List.getElem_cons_zero, List.setIfInBounds_toArray, List.set_cons_zero, List.set_cons_succ]
      refine wpAnyH_take (i := 1) (v := ?_) rfl (by kernel_rfl) (by kernel_rfl) (by kernel_rfl) (fun _ _ _ h => h) (Or.inl ⟨by rfl, ?z1⟩) (by assumption) ?_
      case z1 =>
        intro w hSw
        (try dsimp only at hSw)
        go_simp
        try (with_reducible rfl)
      try simp only [Act.put, List.getElem_toArray, List.getElem_cons_zero, List.getElem_cons_succ, List.setIfInBounds_toArray, List.set_cons_zero, List.set_cons_succ]
      refine wpAnyH_take (i := 2) (v := ?_) rfl (by kernel_rfl) (by kernel_rfl) (by kernel_rfl) (fun _ _ _ h => h) (Or.inl ⟨by rfl, ?z2⟩) (by assumption) ?_
      case z2 =>
        intro w hSw
        (try dsimp only at hSw)
        go_simp
        try (with_reducible rfl)
      try simp only [Act.put, List.getElem_toArray, List.getElem_cons_zero, List.getElem_cons_succ, List.setIfInBounds_toArray, List.set_cons_zero, List.set_cons_succ]
      refine wpAnyH_take (i := 3) (v := ?_) rfl (by kernel_rfl) (by kernel_rfl) (by kernel_rfl) (fun _ _ _ h => h) (Or.inl ⟨by rfl, ?z3⟩) (by assumption) ?_
      case z3 =>
        intro w hSw
        (try dsimp only at hSw)
        go_simp
        try (with_reducible rfl)
      try simp only [Act.put, List.getElem_toArray, List.getElem_cons_zero, List.getElem_cons_succ, List.setIfInBounds_toArray, List.set_cons_zero, List.set_cons_succ]
      refine wpAnyH_take (i := 4) (v := ?_) rfl (by kernel_rfl) (by kernel_rfl) (by kernel_rfl) (fun _ _ _ h => h) (Or.inl ⟨by rfl, ?z4⟩) (by assumption) ?_
      case z4 =>
        intro w hSw
        (try dsimp only at hSw)
        go_simp
        try (with_reducible rfl)
      try simp only [Act.put, List.getElem_toArray, List.getElem_cons_zero, List.getElem_cons_succ, List.setIfInBounds_toArray, List.set_cons_zero, List.set_cons_succ]
      refine wpAnyH_take (i := 5) (v := ?_) rfl (by kernel_rfl) (by kernel_rfl) (by kernel_rfl) (fun _ _ _ h => h) (Or.inl ⟨by rfl, ?z5⟩) (by assumption) ?_
      case z5 =>
        intro w hSw
        (try dsimp only at hSw)
        go_simp
        try (with_reducible rfl)
      try simp only [Act.put, List.getElem_toArray, List.getElem_cons_zero, List.getElem_cons_succ, List.setIfInBounds_toArray, List.set_cons_zero, List.set_cons_succ]
      refine wpAnyH_take (i := 6) (v := ?_) rfl (by kernel_rfl) (by kernel_rfl) (by kernel_rfl) (fun _ _ _ h => h) (Or.inl ⟨by rfl, ?z6⟩) (by assumption) ?_
      case z6 =>
        intro w hSw
        (try dsimp only at hSw)
        go_simp
        try (with_reducible rfl)
      try simp only [Act.put, List.getElem_toArray, List.getElem_cons_zero, List.getElem_cons_succ, List.setIfInBounds_toArray, List.set_cons_zero, List.set_cons_succ]
      refine wpAnyH_take (i := 7) (v := ?_) rfl (by kernel_rfl) (by kernel_rfl) (by kernel_rfl) (fun _ _ _ h => h) (Or.inl ⟨by rfl, ?z7⟩) (by assumption) ?_
      case z7 =>
        intro w hSw
        (try dsimp only at hSw)
        go_simp
        try (with_reducible rfl)
      try simp only [Act.put, List.getElem_toArray, List.getElem_cons_zero, List.getElem_cons_succ, List.setIfInBounds_toArray, List.set_cons_zero, List.set_cons_succ]
      refine wpAnyH_take (i := 8) (v := ?_) rfl (by kernel_rfl) (by kernel_rfl) (by kernel_rfl) (fun _ _ _ h => h) (Or.inl ⟨by rfl, ?z8⟩) (by assumption) ?_
      case z8 =>
        intro w hSw
        (try dsimp only at hSw)
        go_simp
        try (with_reducible rfl)
      try simp only [Act.put, List.getElem_toArray, List.getElem_cons_zero, List.getElem_cons_succ, List.setIfInBounds_toArray, List.set_cons_zero, List.set_cons_succ]
      refine wpAnyH_ready (rs := [9]) (by kernel_rfl) (by simp) (AllReadyH.cons rfl (fun K hK => ?_) AllReadyH.nil)
      go_simp
      refine (HB.out _).mono ?_
      rintro e ww ⟨rfl, gg⟩
      have gg2 : Frm (fun _ => False) wr ww := f0.drew.trans gg
      refine hK.out _ _ ⟨gg2.cellF c0, gg2.cellF c1, gg2.cellF c2, gg2⟩ (fun hHeld2 => ?_)
      clear hK K hHeld gg
      try simp only [Act.put, List.getElem_toArray, List.getElem_cons_zero, List.getElem_cons_succ, List.setIfInBounds_toArray, List.set_cons_zero, List.set_cons_succ]
      refine wpAnyH_take (i := 10) (v := ?_) rfl (by kernel_rfl) (by kernel_rfl) (by kernel_rfl) (fun _ _ _ h => h) (Or.inl ⟨by rfl, ?z10⟩) (by assumption) ?_
      case z10 =>
        intro w hSw
        (try dsimp only at hSw)
        go_simp
        try (with_reducible rfl)
      try simp only [Act.put, List.getElem_toArray, List.getElem_cons_zero, List.getElem_cons_succ, List.setIfInBounds_toArray, List.set_cons_zero, List.set_cons_succ]
      refine wpAnyH_take (i := 11) (v := ?_) rfl (by kernel_rfl) (by kernel_rfl) (by kernel_rfl) (fun _ _ _ h => h) (Or.inl ⟨by rfl, ?z11⟩) (by assumption) ?_
      case z11 =>
        intro w hSw
        (try dsimp only at hSw)
        go_simp
        try (with_reducible rfl)
      try simp only [Act.put, List.getElem_toArray, List.getElem_cons_zero, List.getElem_cons_succ, List.setIfInBounds_toArray, List.set_cons_zero, List.set_cons_succ]
      refine wpAnyH_take (i := 12) (v := undef) rfl (by kernel_rfl) (by kernel_rfl) (by kernel_rfl) (fun _ _ _ h => h) (Or.inr ⟨by rfl, rfl⟩) (by assumption) ?_
      try simp only [Act.put, List.getElem_toArray, List.getElem_cons_zero, List.getElem_cons_succ, List.setIfInBounds_toArray, List.set_cons_zero, List.set_cons_succ]
      refine wpAnyH_take (i := 13) (v := undef) rfl (by kernel_rfl) (by kernel_rfl) (by kernel_rfl) (fun _ _ _ h => h) (Or.inr ⟨by rfl, rfl⟩) (by assumption) ?_
      try simp only [Act.put, List.getElem_toArray, List.getElem_cons_zero, List.getElem_cons_succ, List.setIfInBounds_toArray, List.set_cons_zero, List.set_cons_succ]
      refine wpAnyH_take (i := 14) (v := undef) rfl (by kernel_rfl) (by kernel_rfl) (by kernel_rfl) (fun _ _ _ h => h) (Or.inr ⟨by rfl, rfl⟩) (by assumption) ?_
      try simp only [Act.put, List.getElem_toArray, List.getElem_cons_zero, List.getElem_cons_succ, List.setIfInBounds_toArray, List.set_cons_zero, List.set_cons_succ]
      refine wpAnyH_take (i := 15) (v := undef) rfl (by kernel_rfl) (by kernel_rfl) (by kernel_rfl) (fun _ _ _ h => h) (Or.inr ⟨by rfl, rfl⟩) (by assumption) ?_
      try simp only [Act.put, List.getElem_toArray, List.getElem_cons_zero, List.getElem_cons_succ, List.setIfInBounds_toArray, List.set_cons_zero, List.set_cons_succ]
      refine wpAnyH_take (i := 16) (v := undef) rfl (by kernel_rfl) (by kernel_rfl) (by kernel_rfl) (fun _ _ _ h => h) (Or.inr ⟨by rfl, rfl⟩) (by assumption) ?_
      try simp only [Act.put, List.getElem_toArray, List.getElem_cons_zero, List.getElem_cons_succ, List.setIfInBounds_toArray, List.set_cons_zero, List.set_cons_succ]
      refine wpAnyH_take (i := 17) (v := undef) rfl (by kernel_rfl) (by kernel_rfl) (by kernel_rfl) (fun _ _ _ h => h) (Or.inr ⟨by rfl, rfl⟩) (by assumption) ?_
      try simp only [Act.put, List.getElem_toArray, List.getElem_cons_zero, List.getElem_cons_succ, List.setIfInBounds_toArray, List.set_cons_zero, List.set_cons_succ]
      refine wpAnyH_take (i := 18) (v := undef) rfl (by kernel_rfl) (by kernel_rfl) (by kernel_rfl) (fun _ _ _ h => h) (Or.inr ⟨by rfl, rfl⟩) (by assumption) ?_
      try simp only [Act.put, List.getElem_toArray, List.getElem_cons_zero, List.getElem_cons_succ, List.setIfInBounds_toArray, List.set_cons_zero, List.set_cons_succ]
      refine wpAnyH_take (i := 19) (v := undef) rfl (by kernel_rfl) (by kernel_rfl) (by kernel_rfl) (fun _ _ _ h => h) (Or.inr ⟨by rfl, rfl⟩) (by assumption) ?_
      try simp only [Act.put, List.getElem_toArray, List.getElem_cons_zero, List.getElem_cons_succ, List.setIfInBounds_toArray, List.set_cons_zero, List.set_cons_succ]
      refine wpAnyH_take (i := 20) (v := undef) rfl (by kernel_rfl) (by kernel_rfl) (by kernel_rfl) (fun _ _ _ h => h) (Or.inr ⟨by rfl, rfl⟩) (by assumption) ?_
      try simp only [Act.put, List.getElem_toArray, List.getElem_cons_zero, List.getElem_cons_succ, List.setIfInBounds_toArray, List.set_cons_zero, List.set_cons_succ]
      refine wpAnyH_take (i := 21) (v := undef) rfl (by kernel_rfl) (by kernel_rfl) (by kernel_rfl) (fun _ _ _ h => h) (Or.inr ⟨by rfl, rfl⟩) (by assumption) ?_
      try simp only [Act.put, List.getElem_toArray, List.getElem_cons_zero, List.getElem_cons_succ, List.setIfInBounds_toArray, List.set_cons_zero, List.set_cons_succ]
      refine wpAnyH_take (i := 22) (v := ?_) rfl (by kernel_rfl) (by kernel_rfl) (by kernel_rfl) (fun _ _ _ h => h) (Or.inl ⟨by rfl, ?z22⟩) (by assumption) ?_
      case z22 =>
        intro w hSw
        (try dsimp only at hSw)
        go_simp
        try (with_reducible rfl)
      try simp only [Act.put, List.getElem_toArray, List.getElem_cons_zero, List.getElem_cons_succ, List.setIfInBounds_toArray, List.set_cons_zero, List.set_cons_succ]
      refine wpAnyH_done (by kernel_rfl) ?_ _
      all_goals
        go_wp2_with fail
        go_roundw
        case rel => exact ⟨k + 1, by omega, by go_num, f1.trans gg2⟩
        case measure => simp [intOf]; omega

set_option maxRecDepth 100000 in
set_option maxHeartbeats 4000000 in
theorem at_no (r : Nat) (I : List (Nat × Nat)) (fq : Nat → Prop) (s : List UInt8) (x : Nat) (w : World) (h : Rf w r I fq) (hs : s.length ≤ 9223372036854775807) (hm : (bk s, x) ∉ I) :
    Calls Try.prog 31 #[.pointer (some ⟨r, 0, none⟩), .string (bs s), .int .u32 x] w fun e w' => e = .returned (.int .i64 (-1)) ∧ Frm (fun _ => False) w w' := by
  obtain ⟨_, _, v, hb, ho, _⟩ := h
  have hbef : ∀ j (hj : j < I.length), I[j] ≠ (bk s, x) := fun j hj e => hm (e ▸ List.getElem_mem hj)
  have hB : ∀ W, Calls Try.prog 9 #[.string (bs s)] W fun e w' => e = .returned (.int .i64 (bk s : Nat)) ∧ Frm (fun _ => False) W w' := fun W => rbucket_any s W hs
  clear hm
  generalize bk s = k0 at *
  have Hbef := Lib.hid hbef
  have HB := Lib.hid hB
  clear hbef hB
  obtain ⟨a, cap, rfl, hc1, hc2⟩ := Row.slice ho
  have HO := Lib.hid ho
  unfold maxLen at hc2
  go_enter Try.func31, Try.ntmps31
  go_wp2
  go_loopw [7] (fun j wr => ∃ k : Nat, k ≤ I.length ∧ j = .int .i64 k ∧ Frm (fun _ => False) w wr) (fun j _ => I.length - (intOf j).toNat)
  case atStart => exact ⟨0, Nat.zero_le _, rfl, Frm.refl _ _⟩
  case round =>
    obtain ⟨k, hk, rfl, f1⟩ := hrel
    by_cases hk2 : k < I.length
    · obtain ⟨g, cap', e', _, _, c1, c2⟩ := (HO.out.keep f1 (fun _ _ h => h)).at k hk2
      cases e'
      have c0 := (hb.keep f1 (fun h => h)).cell 0 rfl
      have hk0 : (0 : Int) ≤ (k : Int) := by omega
      have hki : (k : Int) < (I.length : Int) := by omega
      go_wp2_with fail
      have HS : ∀ W, Frm (fun _ => False) wr W → W.cell? ⟨r, 0, none⟩ = some (.slice (some ⟨g, 0, none⟩) I.length cap) ∧ W.cell? ⟨g, k * 2, none⟩ = some (.int .i64 I[k].1) ∧ W.cell? ⟨g, k * 2 + 1, none⟩ = some (.int .u32 I[k].2) ∧ Frm (fun _ => False) wr W :=
        fun W hW => ⟨hW.cellF c0, hW.cellF c1, hW.cellF c2, hW⟩
      have hC : Calls Try.prog 9 #[.string (bs s)] wr.drew fun e W => e = .returned (.int .i64 (k0 : Nat)) ∧ W.cell? ⟨r, 0, none⟩ = some (.slice (some ⟨g, 0, none⟩) I.length cap) ∧ W.cell? ⟨g, k * 2, none⟩ = some (.int .i64 I[k].1) ∧ W.cell? ⟨g, k * 2 + 1, none⟩ = some (.int .u32 I[k].2) ∧ Frm (fun _ => False) wr W :=
        (HB.out _).mono fun e W ⟨h1, h2⟩ => ⟨h1, HS W ((Frm.refl _ wr).drew.trans h2)⟩
      have HC := Lib.hid hC
      have f0 := Frm.refl (fun _ => False) wr
      clear hC HS
      by_cases hkb : I[k].1 = k0
      · have hq1 : ((I[k].1 : Int) == (k0 : Int)) = true := by rw [hkb]; exact beq_self_eq_true _
        have HKB := Lib.hid hkb
        clear hkb
        have hkx : I[k].2 ≠ x := fun e => Hbef.out k hk2 (Prod.ext HKB.out e)
        have hq2 : ((I[k].2 : Int) == (x : Int)) = false := by rw [beq_eq_false_iff_ne]; omega
        clear hkx
        go_region_held3 (fun w' => w'.cell? ⟨r, 0, none⟩ = some (.slice (some ⟨g, 0, none⟩) I.length cap) ∧ w'.cell? ⟨g, k * 2, none⟩ = some (.int .i64 I[k].1) ∧ w'.cell? ⟨g, k * 2 + 1, none⟩ = some (.int .u32 I[k].2) ∧ Frm (fun _ => False) wr w')
          (((try dsimp only); (try go_split_ands); (repeat' apply And.intro) <;> (first
            | assumption
            | exact Frm.drew (by assumption)
            | exact Frm.cellF gg (by assumption)
            | (refine Frm.trans ?_ gg; assumption)
            | go_keep)))
          (first
            | (go_at_call 9; (with_reducible refine (HB.out _).mono ?_); rintro e ww ⟨rfl, gg⟩))
        rename_i hh
        obtain ⟨_, _, _, gg2⟩ := hh
        all_goals
          go_wp2_with fail
          go_roundw
          case rel => exact ⟨k + 1, by omega, by go_num, f1.trans gg2⟩
          case measure => simp [intOf]; omega
      · have hq1 : ((I[k].1 : Int) == (k0 : Int)) = false := by rw [beq_eq_false_iff_ne]; omega
        clear hkb
        refine wp_region_held_drew (S := (fun w' : World => w'.cell? ⟨r, 0, none⟩ = some (.slice (some ⟨g, 0, none⟩) I.length cap) ∧ w'.cell? ⟨g, k * 2, none⟩ = some (.int .i64 I[k].1) ∧ w'.cell? ⟨g, k * 2 + 1, none⟩ = some (.int .u32 I[k].2) ∧ Frm (fun _ => False) wr w')) (by kernel_rfl) ⟨c0, c1, c2, f0.drew⟩ (fun hHeld => ?_)
        refine wpAnyH_take (i := 0) (v := ?_) rfl (by kernel_rfl) (by kernel_rfl) (by kernel_rfl) (fun _ _ _ h => h) (Or.inl ⟨by rfl, ?z0⟩) (by assumption) ?_
        case z0 =>
          intro w hSw
          (try dsimp only at hSw)
          go_simp
          try (with_reducible rfl)
        try simp only [Act.put, List.getElem_toArray, List.getElem_cons_zero, List.setIfInBounds_toArray, List.set_cons_zero, List.set_cons_succ]
        refine wpAnyH_take (i := 1) (v := ?_) rfl (by kernel_rfl) (by kernel_rfl) (by kernel_rfl) (fun _ _ _ h => h) (Or.inl ⟨by rfl, ?z1⟩) (by assumption) ?_
        case z1 =>
          intro w hSw
          (try dsimp only at hSw)
          go_simp
          try (with_reducible rfl)
        try simp only [Act.put, List.getElem_toArray, List.getElem_cons_zero, List.getElem_cons_succ, List.setIfInBounds_toArray, List.set_cons_zero, List.set_cons_succ]
        refine wpAnyH_take (i := 2) (v := ?_) rfl (by kernel_rfl) (by kernel_rfl) (by kernel_rfl) (fun _ _ _ h => h) (Or.inl ⟨by rfl, ?z2⟩) (by assumption) ?_
        case z2 =>
          intro w hSw
          (try dsimp only at hSw)
          go_simp
          try (with_reducible rfl)
        try simp only [Act.put, List.getElem_toArray, List.getElem_cons_zero, List.getElem_cons_succ, List.setIfInBounds_toArray, List.set_cons_zero, List.set_cons_succ]
        refine wpAnyH_take (i := 3) (v := ?_) rfl (by kernel_rfl) (by kernel_rfl) (by kernel_rfl) (fun _ _ _ h => h) (Or.inl ⟨by rfl, ?z3⟩) (by assumption) ?_
        case z3 =>
          intro w hSw
          (try dsimp only at hSw)
          go_simp
          try (with_reducible rfl)
        try simp only [Act.put, List.getElem_toArray, List.getElem_cons_zero, List.getElem_cons_succ, List.setIfInBounds_toArray, List.set_cons_zero, List.set_cons_succ]
        refine wpAnyH_take (i := 4) (v := ?_) rfl (by kernel_rfl) (by kernel_rfl) (by kernel_rfl) (fun _ _ _ h => h) (Or.inl ⟨by rfl, ?z4⟩) (by assumption) ?_
        case z4 =>
          intro w hSw
          (try dsimp only at hSw)
          go_simp
          try (with_reducible rfl)
        try simp only [Act.put, List.getElem_toArray, List.getElem_cons_zero, List.getElem_cons_succ, List.setIfInBounds_toArray, List.set_cons_zero, List.set_cons_succ]
        refine wpAnyH_take (i := 5) (v := ?_) rfl (by kernel_rfl) (by kernel_rfl) (by kernel_rfl) (fun _ _ _ h => h) (Or.inl ⟨by rfl, ?z5⟩) (by assumption) ?_
        case z5 =>
          intro w hSw
          (try dsimp only at hSw)
          go_simp
          try (with_reducible rfl)
        try simp only [Act.put, List.getElem_toArray, List.getElem_cons_zero, List.getElem_cons_succ, List.setIfInBounds_toArray, List.set_cons_zero, List.set_cons_succ]
        refine wpAnyH_take (i := 6) (v := ?_) rfl (by kernel_rfl) (by kernel_rfl) (by kernel_rfl) (fun _ _ _ h => h) (Or.inl ⟨by rfl, ?z6⟩) (by assumption) ?_
        case z6 =>
          intro w hSw
          (try dsimp only at hSw)
          go_simp
          try (with_reducible rfl)
        try simp only [Act.put, List.getElem_toArray, List.getElem_cons_zero, List.getElem_cons_succ, List.setIfInBounds_toArray, List.set_cons_zero, List.set_cons_succ]
        refine wpAnyH_take (i := 7) (v := ?_) rfl (by kernel_rfl) (by kernel_rfl) (by kernel_rfl) (fun _ _ _ h => h) (Or.inl ⟨by rfl, ?z7⟩) (by assumption) ?_
        case z7 =>
          intro w hSw
          (try dsimp only at hSw)
          go_simp
          try (with_reducible rfl)
        try simp only [Act.put, List.getElem_toArray, List.getElem_cons_zero, List.getElem_cons_succ, List.setIfInBounds_toArray, List.set_cons_zero, List.set_cons_succ]
        refine wpAnyH_take (i := 8) (v := ?_) rfl (by kernel_rfl) (by kernel_rfl) (by kernel_rfl) (fun _ _ _ h => h) (Or.inl ⟨by rfl, ?z8⟩) (by assumption) ?_
        case z8 =>
          intro w hSw
          (try dsimp only at hSw)
          go_simp
          try (with_reducible rfl)
        try simp only [Act.put, List.getElem_toArray, List.getElem_cons_zero, List.getElem_cons_succ, List.setIfInBounds_toArray, List.set_cons_zero, List.set_cons_succ]
        refine wpAnyH_ready (rs := [9]) (by kernel_rfl) (by simp) (AllReadyH.cons rfl (fun K hK => ?_) AllReadyH.nil)
        go_simp
        refine (HB.out _).mono ?_
        rintro e ww ⟨rfl, gg⟩
        have gg2 : Frm (fun _ => False) wr ww := f0.drew.trans gg
        refine hK.out _ _ ⟨gg2.cellF c0, gg2.cellF c1, gg2.cellF c2, gg2⟩ (fun hHeld2 => ?_)
        clear hK K hHeld gg
        try simp only [Act.put, List.getElem_toArray, List.getElem_cons_zero, List.getElem_cons_succ, List.setIfInBounds_toArray, List.set_cons_zero, List.set_cons_succ]
        refine wpAnyH_take (i := 10) (v := ?_) rfl (by kernel_rfl) (by kernel_rfl) (by kernel_rfl) (fun _ _ _ h => h) (Or.inl ⟨by rfl, ?z10⟩) (by assumption) ?_
        case z10 =>
          intro w hSw
          (try dsimp only at hSw)
          go_simp
          try (with_reducible rfl)
        try simp only [Act.put, List.getElem_toArray, List.getElem_cons_zero, List.getElem_cons_succ, List.setIfInBounds_toArray, List.set_cons_zero, List.set_cons_succ]
        refine wpAnyH_take (i := 11) (v := ?_) rfl (by kernel_rfl) (by kernel_rfl) (by kernel_rfl) (fun _ _ _ h => h) (Or.inl ⟨by rfl, ?z11⟩) (by assumption) ?_
        case z11 =>
          intro w hSw
          (try dsimp only at hSw)
          go_simp
          try (with_reducible rfl)
        try simp only [Act.put, List.getElem_toArray, List.getElem_cons_zero, List.getElem_cons_succ, List.setIfInBounds_toArray, List.set_cons_zero, List.set_cons_succ]
        refine wpAnyH_take (i := 12) (v := undef) rfl (by kernel_rfl) (by kernel_rfl) (by kernel_rfl) (fun _ _ _ h => h) (Or.inr ⟨by rfl, rfl⟩) (by assumption) ?_
        try simp only [Act.put, List.getElem_toArray, List.getElem_cons_zero, List.getElem_cons_succ, List.setIfInBounds_toArray, List.set_cons_zero, List.set_cons_succ]
        refine wpAnyH_take (i := 13) (v := undef) rfl (by kernel_rfl) (by kernel_rfl) (by kernel_rfl) (fun _ _ _ h => h) (Or.inr ⟨by rfl, rfl⟩) (by assumption) ?_
        try simp only [Act.put, List.getElem_toArray, List.getElem_cons_zero, List.getElem_cons_succ, List.setIfInBounds_toArray, List.set_cons_zero, List.set_cons_succ]
        refine wpAnyH_take (i := 14) (v := undef) rfl (by kernel_rfl) (by kernel_rfl) (by kernel_rfl) (fun _ _ _ h => h) (Or.inr ⟨by rfl, rfl⟩) (by assumption) ?_
        try simp only [Act.put, List.getElem_toArray, List.getElem_cons_zero, List.getElem_cons_succ, List.setIfInBounds_toArray, List.set_cons_zero, List.set_cons_succ]
        refine wpAnyH_take (i := 15) (v := undef) rfl (by kernel_rfl) (by kernel_rfl) (by kernel_rfl) (fun _ _ _ h => h) (Or.inr ⟨by rfl, rfl⟩) (by assumption) ?_
        try simp only [Act.put, List.getElem_toArray, List.getElem_cons_zero, List.getElem_cons_succ, List.setIfInBounds_toArray, List.set_cons_zero, List.set_cons_succ]
        refine wpAnyH_take (i := 16) (v := undef) rfl (by kernel_rfl) (by kernel_rfl) (by kernel_rfl) (fun _ _ _ h => h) (Or.inr ⟨by rfl, rfl⟩) (by assumption) ?_
        try simp only [Act.put, List.getElem_toArray, List.getElem_cons_zero, List.getElem_cons_succ, List.setIfInBounds_toArray, List.set_cons_zero, List.set_cons_succ]
        refine wpAnyH_take (i := 17) (v := undef) rfl (by kernel_rfl) (by kernel_rfl) (by kernel_rfl) (fun _ _ _ h => h) (Or.inr ⟨by rfl, rfl⟩) (by assumption) ?_
        try simp only [Act.put, List.getElem_toArray, List.getElem_cons_zero, List.getElem_cons_succ, List.setIfInBounds_toArray, List.set_cons_zero, List.set_cons_succ]
        refine wpAnyH_take (i := 18) (v := undef) rfl (by kernel_rfl) (by kernel_rfl) (by kernel_rfl) (fun _ _ _ h => h) (Or.inr ⟨by rfl, rfl⟩) (by assumption) ?_
        try simp only [Act.put, List.getElem_toArray, List.getElem_cons_zero, List.getElem_cons_succ, List.setIfInBounds_toArray, List.set_cons_zero, List.set_cons_succ]
        refine wpAnyH_take (i := 19) (v := undef) rfl (by kernel_rfl) (by kernel_rfl) (by kernel_rfl) (fun _ _ _ h => h) (Or.inr ⟨by rfl, rfl⟩) (by assumption) ?_
        try simp only [Act.put, List.getElem_toArray, List.getElem_cons_zero, List.getElem_cons_succ, List.setIfInBounds_toArray, List.set_cons_zero, List.set_cons_succ]
        refine wpAnyH_take (i := 20) (v := undef) rfl (by kernel_rfl) (by kernel_rfl) (by kernel_rfl) (fun _ _ _ h => h) (Or.inr ⟨by rfl, rfl⟩) (by assumption) ?_
        try simp only [Act.put, List.getElem_toArray, List.getElem_cons_zero, List.getElem_cons_succ, List.setIfInBounds_toArray, List.set_cons_zero, List.set_cons_succ]
        refine wpAnyH_take (i := 21) (v := undef) rfl (by kernel_rfl) (by kernel_rfl) (by kernel_rfl) (fun _ _ _ h => h) (Or.inr ⟨by rfl, rfl⟩) (by assumption) ?_
        try simp only [Act.put, List.getElem_toArray, List.getElem_cons_zero, List.getElem_cons_succ, List.setIfInBounds_toArray, List.set_cons_zero, List.set_cons_succ]
        refine wpAnyH_take (i := 22) (v := ?_) rfl (by kernel_rfl) (by kernel_rfl) (by kernel_rfl) (fun _ _ _ h => h) (Or.inl ⟨by rfl, ?z22⟩) (by assumption) ?_
        case z22 =>
          intro w hSw
          (try dsimp only at hSw)
          go_simp
          try (with_reducible rfl)
        try simp only [Act.put, List.getElem_toArray, List.getElem_cons_zero, List.getElem_cons_succ, List.setIfInBounds_toArray, List.set_cons_zero, List.set_cons_succ]
        refine wpAnyH_done (by kernel_rfl) ?_ _
        all_goals
          go_wp2_with fail
          go_roundw
          case rel => exact ⟨k + 1, by omega, by go_num, f1.trans gg2⟩
          case measure => simp [intOf]; omega
    · obtain rfl : k = I.length := by omega
      have c0 := (hb.keep f1 (fun h => h)).cell 0 rfl
      go_wp2_with fail
      go_ret
      exact ⟨rfl, f1⟩
end Go.Proofs.Ytmdnacboenehkaa
