/- The statements' own works. -/
import Derived.Test.YtojbgckabifnjaaSibW
import Derived.Test.YtojbgckabifnjaaSibT
import Derived.Test.YtojbgckabifnjaaLate
import Derived.Test.YtojbgckabifnjaaLawVJoins
import Derived.Test.YtojbgckabifnjaaSibU
import Derived.Deep.Cut
namespace Go.Proofs.Ytojbgckabifnjaa
open Go.RowKit

theorem f1_fit : Fit8 f1 := fun k _ => by unfold f1; split <;> omega
theorem stay_self : stayL f1 f1 [sA] [sA] = [sA] := by rfl
theorem jn_self : jn8 f1 f1 = f1 := by
  funext k
  unfold jn8 f1
  split <;> rfl
theorem ok_self : okR f1 [sA] = true := by decide
theorem join_self {f' : Nat → Nat} {l' : List SibI} {e : Nat} (h : JoinIs f1 f1 [sA] [sA] f' l' e) : e = 0 ∧ f' = f1 ∧ l' = [sA] := by
  unfold JoinIs at h
  rw [ok_self, stay_self, jn_self] at h
  rcases h with h | h | h
  · simp at h
  · simp at h
  · obtain ⟨_, _, h1, h2, h3, _⟩ := h
    exact ⟨h1, h2, List.perm_singleton.1 h3⟩
def wk2M : List Nat := [1, 2, 7, 15, 31, 47, 64, 223, 351]
def wk2R (v1 : Value) (B : Nat) : List ((Nat → Value) → World → Prop) := [
  fun val _ => val 0 = rg f1 v1,
  fun val W => ∃ v', (val 1) = rg f1 v' ∧ OwnL W v' [sA],
  fun val W => ∃ v', (val 2) = .tuple #[rg f1 v', .int .i64 0] ∧ OwnL W v' [sA],
  fun val _ => val 3 = (val 2),
  fun val _ => val 4 = tupAt (val 3) 0,
  fun val _ => val 5 = tupAt (val 3) 1,
  fun val W => ∃ b, (val 6) = .pointer (some ⟨b, 0, none⟩) ∧ B + 1 < b ∧ Blk W b 39 rz]
def wk3M : List Nat := [1, 2, 4, 12, 31, 63, 127, 191, 511, 1023, 2047, 4095, 8191, 16383, 32767, 65535, 98303, 163839, 425983, 1048575, 2097151, 4194303, 8388607, 16777215, 33554431, 67108863, 134217727, 201326591, 536870911, 1073741823, 2147483647]
def wk3R (v1 v15 : Value) : List ((Nat → Value) → World → Prop) := [
  fun val _ => val 0 = rg f1 v1,
  fun val _ => val 1 = .agg (vv f1),
  fun val _ => val 2 = .agg #[.int .u8 0, .int .u32 1, .string (bs [97])],
  fun val W => ∃ x, (val 3) = x ∧ OwnL W x [sA],
  fun val _ => val 4 = .bool true,
  fun val _ => val 5 = .bool true,
  fun val _ => val 6 = .agg (dv 0 1),
  fun val _ => val 7 = .agg (dv 0 1),
  fun val _ => val 8 = .bool true,
  fun val _ => val 9 = .bool true,
  fun val _ => val 10 = .bool true,
  fun val _ => val 11 = .int .i64 0,
  fun val _ => val 12 = .bool true,
  fun val _ => val 13 = .bool true,
  fun val _ => val 14 = .bool true,
  fun val _ => val 15 = rg f1 v15,
  fun val _ => val 16 = .agg (vv f1),
  fun val _ => val 17 = .agg #[.int .u8 0, .int .u32 1, .string (bs [97])],
  fun val W => ∃ x, (val 18) = x ∧ OwnL W x [sA],
  fun val _ => val 19 = .bool true,
  fun val _ => val 20 = .bool true,
  fun val _ => val 21 = .bool true,
  fun val _ => val 22 = .int .i64 0,
  fun val _ => val 23 = .bool true,
  fun val _ => val 24 = .bool true,
  fun val _ => val 25 = .bool true,
  fun val _ => val 26 = rg f1 v1,
  fun val _ => val 27 = rg f1 v15,
  fun val _ => val 28 = .bool true,
  fun val _ => val 29 = .bool true]
theorem OwnL.notReg {W : World} {v : Value} {x : SibI} {l : List SibI} {V : Nat} {f : Nat → Nat} {u : Value} (h : OwnL W v (x :: l)) (hb : Blk W V 39 (rgc f u)) : ∀ g, v.ownBlock = some g → ¬ g = V := by
  intro g hg e
  subst e
  rcases h.2 with ⟨rfl, _⟩ | ⟨g', cap, rfl, _, _, _, h4, _⟩
  · cases hg
  · cases hg
    have c1 := h4 0 (by simp)
    rw [hb.cell 0 rfl] at c1
    simp [flat, sibc] at c1

set_option maxRecDepth 100000 in
set_option maxHeartbeats 8000000 in
theorem sworks_any (w : World) : Calls Try.prog 16 #[] w fun e w' => e = .returned (.bool true) ∧ Frm (fun _ => False) w w' := by
  have HW := Lib.hid (fun W => swrite_a W)
  go_enter Try.func16, Try.ntmps16
  go_wp2_with fail
  refine (HW.out w).mono ?_
  rintro e w1 ⟨v1, rfl, o1, n1, g1⟩
  obtain ⟨a1, c1, rfl, _, _⟩ := Row.slice o1
  have b1 : Blk ((w1.alloc (.cells (rgc f1 (.slice a1 1 c1)) 39)).alloc (.cells (dv 0 1) 27)) w1.heap.size 39 (rgc f1 (.slice a1 1 c1)) := (Blk.alloc w1 _ _).old _
  have b2 : Blk ((w1.alloc (.cells (rgc f1 (.slice a1 1 c1)) 39)).alloc (.cells (dv 0 1) 27)) (w1.heap.size + 1) 27 (dv 0 1) := Blk.at1 w1 _ _ _
  have g2 : Frm (fun _ => False) w1 ((w1.alloc (.cells (rgc f1 (.slice a1 1 c1)) 39)).alloc (.cells (dv 0 1) 27)) := ((Frm.refl _ w1).alloc _).alloc _
  have k2 := g1.trans g2
  have hle := g1.size
  have o2 := o1.keep g2 (fun _ _ h => h)
  go_upto_region 2 with fail
  rename_i hK
  obtain ⟨B, hB⟩ : ∃ B, w1.heap.size = B := ⟨_, rfl⟩
  simp only [List.length_singleton] at o2
  generalize hw2 : ((w1.alloc (.cells (rgc f1 (.slice a1 1 c1)) 39)).alloc (.cells (dv 0 1) 27)) = w2 at *
  rw [hB] at b1 b2 ⊢
  generalize hv1 : Value.slice a1 1 c1 = v1 at *
  have H0 : Hid (∀ W, Frm (fun _ => False) w2.drew W → Blk W B 39 (rgc f1 v1) ∧ Blk W (B + 1) 27 (dv 0 1)) := Lib.hid fun W g => ⟨b1.keep (Frm.trans (Frm.refl _ w2).drew g) (fun h => h), b2.keep (Frm.trans (Frm.refl _ w2).drew g) (fun h => h)⟩
  have nv : ∀ V, B + 1 < V → ∀ g, blkOf v1 = some g → ¬ g = V := fun V hV g hg => by
    have := o1.blk g (o1.blkOf g hg)
    omega
  have H1 : Hid (∀ W, Frm (fun _ => False) w2.drew W → SL W v1 [sA]) := Lib.hid fun W g => (o2.keep (Frm.trans (Frm.refl _ w2).drew g) (fun _ _ h => h)).sl
  rw [hB] at hle
  clear hw2 hB b1 b2 o1 o2 n1 g1 g2 HW
  refine wp_region_late 7 2 [5] [[], [], [0, 1], [2], [2, 3], [2, 3], []] wk2M (wk2R v1 B) (by kernel_rfl) rfl rfl rfl (by kernel_rfl) (by kernel_rfl) (by kernel_rfl) (by kernel_rfl) rfl (by kernel_rfl) (by kernel_rfl) (by kernel_rfl) (by kernel_rfl) (fun val => ?_) ?_
  · try simp only [Act.put, List.setIfInBounds_toArray, List.set_cons_zero, List.set_cons_succ]
    refine RelO.next (k' := 1) rfl (fun W gW hF => ?_) ?_
    focus
      exact OpOK.load (by rfl) _ rfl (by rfl) (load_reg (H0.out W gW).1) (fun W' _ => rfl)
    try simp only [Act.put, List.setIfInBounds_toArray, List.set_cons_zero, List.set_cons_succ]
    refine RelO.next (k' := 2) rfl (fun W gW hF => ?_) ?_
    focus
      refine OpOK.call (by rfl) ?_ ((given_any W).mono ?_)
      · first | (go_simp; done) | (go_simp; with_reducible rfl) | (go_simp; rfl)
      · rintro e W1 ⟨v', rfl, o', g', _⟩
        exact ⟨_, rfl, g', fun W2 g2 => ⟨v', rfl, o'.keep g2 (fun _ _ h => h)⟩⟩
    try simp only [Act.put, List.setIfInBounds_toArray, List.set_cons_zero, List.set_cons_succ]
    refine RelO.next (k' := 3) rfl (fun W gW hF => ?_) ?_
    focus
      obtain ⟨h0, h1, _⟩ := hF
      have e0 : val 0 = rg f1 v1 := h0 _ (Frm.refl _ W)
      have q1 : ∃ v', (val 1) = rg f1 v' ∧ OwnL W v' [sA] := h1 _ (Frm.refl _ W)
      obtain ⟨v14, e1, o14⟩ := q1
      try simp only [e1]
      try simp only [e0]
      try simp only [tupAt]
      refine OpOK.call (by rfl) ?_ ((sjoin_any f1 f1 v1 v14 [sA] [sA] W f1_fit f1_fit (H1.out W gW) o14.sl (by decide) (by decide)).mono ?_)
      · first | (go_simp; done) | (go_simp; with_reducible rfl) | (go_simp; rfl)
      · rintro e W1 ⟨v', f', l', e0, rfl, o', _, g', hj⟩
        obtain ⟨rfl, rfl, rfl⟩ := join_self hj
        exact ⟨_, rfl, g', fun W2 g2 => ⟨v', rfl, o'.keep g2 (fun _ _ h => h)⟩⟩
    try simp only [Act.put, List.setIfInBounds_toArray, List.set_cons_zero, List.set_cons_succ]
    refine RelO.next (k' := 4) rfl (fun W gW hF => ?_) ?_
    focus
      obtain ⟨h2, _⟩ := hF
      have q2 : ∃ v', (val 2) = .tuple #[rg f1 v', .int .i64 0] ∧ OwnL W v' [sA] := h2 _ (Frm.refl _ W)
      obtain ⟨v15, e2, o15⟩ := q2
      try simp only [e2]
      try simp only [tupAt]
      refine OpOK.val (u := (val 2)) (by rfl) ?_ (fun W' _ => rfl)
      try simp only [e2]
      try simp only [tupAt]
      first | (go_simp; done) | (go_simp; with_reducible rfl) | (go_simp; rfl)
    try simp only [Act.put, List.setIfInBounds_toArray, List.set_cons_zero, List.set_cons_succ]
    refine RelO.next (k' := 5) rfl (fun W gW hF => ?_) ?_
    focus
      obtain ⟨h2, h3, _⟩ := hF
      have q2 : ∃ v', (val 2) = .tuple #[rg f1 v', .int .i64 0] ∧ OwnL W v' [sA] := h2 _ (Frm.refl _ W)
      obtain ⟨v15, e2, o15⟩ := q2
      have e3 : val 3 = (val 2) := h3 _ (Frm.refl _ W)
      try simp only [e3]
      try simp only [e2]
      try simp only [tupAt]
      refine OpOK.val (u := tupAt (val 3) 0) (by rfl) ?_ (fun W' _ => rfl)
      try simp only [e3]
      try simp only [e2]
      try simp only [tupAt]
      first | (go_simp; done) | (go_simp; with_reducible rfl) | (go_simp; rfl)
    try simp only [Act.put, List.setIfInBounds_toArray, List.set_cons_zero, List.set_cons_succ]
    refine RelO.next (k' := 6) rfl (fun W gW hF => ?_) ?_
    focus
      obtain ⟨h2, h3, _⟩ := hF
      have q2 : ∃ v', (val 2) = .tuple #[rg f1 v', .int .i64 0] ∧ OwnL W v' [sA] := h2 _ (Frm.refl _ W)
      obtain ⟨v15, e2, o15⟩ := q2
      have e3 : val 3 = (val 2) := h3 _ (Frm.refl _ W)
      try simp only [e3]
      try simp only [e2]
      try simp only [tupAt]
      refine OpOK.val (u := tupAt (val 3) 1) (by rfl) ?_ (fun W' _ => rfl)
      try simp only [e3]
      try simp only [e2]
      try simp only [tupAt]
      first | (go_simp; done) | (go_simp; with_reducible rfl) | (go_simp; rfl)
    try simp only [Act.put, List.setIfInBounds_toArray, List.set_cons_zero, List.set_cons_succ]
    refine RelO.next (k' := 7) rfl (fun W gW hF => ?_) ?_
    focus
      have hlt := World.block_lt_of_cell? W _ ((H0.out W gW).2.cell 0 rfl)
      refine OpOK.made (W' := W.alloc (.cells rz 39)) (u := .pointer (some ⟨W.heap.size, 0, none⟩)) (by rfl) ?_ ((Frm.refl _ W).alloc _) (fun W2 g2 => ⟨W.heap.size, rfl, hlt, (Blk.alloc W _ _).keep g2 (fun h => h)⟩)
      first | (go_simp; done) | (go_simp; with_reducible rfl) | (go_simp; rfl)
    try simp only [Act.put, List.setIfInBounds_toArray, List.set_cons_zero, List.set_cons_succ]
    exact RelO.nil
  intro val W gW hF
  obtain ⟨h0, h1, h2, h3, h4, h5, h6, _⟩ := hF
  have e0 : val 0 = rg f1 v1 := h0 _ (Frm.refl _ W)
  have q1 : ∃ v', (val 1) = rg f1 v' ∧ OwnL W v' [sA] := h1 _ (Frm.refl _ W)
  obtain ⟨v14, e1, o14⟩ := q1
  have q2 : ∃ v', (val 2) = .tuple #[rg f1 v', .int .i64 0] ∧ OwnL W v' [sA] := h2 _ (Frm.refl _ W)
  obtain ⟨v15, e2, o15⟩ := q2
  have e3 : val 3 = (val 2) := h3 _ (Frm.refl _ W)
  have e4 : val 4 = tupAt (val 3) 0 := h4 _ (Frm.refl _ W)
  have e5 : val 5 = tupAt (val 3) 1 := h5 _ (Frm.refl _ W)
  have q6 : ∃ b, (val 6) = .pointer (some ⟨b, 0, none⟩) ∧ B + 1 < b ∧ Blk W b 39 rz := h6 _ (Frm.refl _ W)
  obtain ⟨V, e6, hV, bV⟩ := q6
  clear h0 h1 h2 h3 h4 h5 h6
  simp only [aO, Act.put, List.setIfInBounds_toArray, List.set_cons_zero, List.set_cons_succ, Nat.reduceAdd]
  try simp only [e6]
  try simp only [e5]
  try simp only [e4]
  try simp only [e3]
  try simp only [e2]
  try simp only [e1]
  try simp only [e0]
  try simp only [tupAt]
  obtain ⟨a15, c15, e15, _, _⟩ := o15.sl.slice
  refine row_step rfl rfl rfl 39 _ _ rfl V (rgc f1 v15) rz rfl rfl bV rfl ?_ ?_ ?_
  · show _ = some 9; kernel_rfl
  · simp [Value.oneCell', e15]
  intro w3 b3 g3 z3
  refine wpTail.assign (v := .int .i64 0) rfl rfl rfl rfl rfl ?_
  try simp only [Act.put, List.setIfInBounds_toArray, List.set_cons_zero, List.set_cons_succ]
  refine wpTail.doneN ?_
  refine hK _ _ ?_
  have c3 := b3
  have c1 := (H0.out W gW).1.keep g3 (show ¬ B = V by omega)
  have c2 := (H0.out W gW).2.keep g3 (show ¬ B + 1 = V by omega)
  have s1 : SL w3 v1 [sA] := (H1.out W gW).keep g3 (nv V hV)
  have s2 : SL w3 v15 [sA] := o15.sl.keep g3 fun g hg => o15.notReg (f := fun _ => 0) (u := .slice none 0 0) bV g (o15.blkOf g hg)
  have g4 : Frm (fun q => q = V) w2.drew w3 := (gW.mono fun _ _ h => h.elim).trans g3
  have gg : Frm (fun _ => False) w w3 := (k2.trans ((Frm.refl _ w2).drew)).next g4 fun k hk h => by
    have h : k = V := h
    omega
  clear g4 gW g3 b3 bV H0 H1 nv
  go_upto_region 3 with fail
  rename_i hK2
  have HB : Hid (∀ W, Frm (fun _ => False) w3.drew W → Blk W B 39 (rgc f1 v1) ∧ Blk W (B + 1) 27 (dv 0 1) ∧ Blk W V 39 (rgc f1 v15)) := Lib.hid fun W g => ⟨c1.keep (Frm.trans (Frm.refl _ w3).drew g) (fun h => h), c2.keep (Frm.trans (Frm.refl _ w3).drew g) (fun h => h), c3.keep (Frm.trans (Frm.refl _ w3).drew g) (fun h => h)⟩
  have HS : Hid (∀ W, Frm (fun _ => False) w3.drew W → SL W v1 [sA] ∧ SL W v15 [sA]) := Lib.hid fun W g => ⟨s1.keepF (Frm.trans (Frm.refl _ w3).drew g), s2.keepF (Frm.trans (Frm.refl _ w3).drew g)⟩
  clear c1 c2 c3 s1 s2 z3
  refine wp_region_late 30 1 [] [[], [], [], [2], [0, 1, 3], [4], [5], [5], [5, 6, 7], [5, 8], [9], [10], [10, 11], [10, 12], [13], [14], [14], [14], [14, 17], [14, 15, 16, 18], [14, 19], [20], [21], [21, 22], [21, 23], [24], [25], [25], [25, 26, 27], [25, 28]] wk3M (wk3R v1 v15) (by kernel_rfl) rfl rfl rfl (by kernel_rfl) (by kernel_rfl) (by kernel_rfl) (by kernel_rfl) rfl (by kernel_rfl) (by kernel_rfl) (by kernel_rfl) (by kernel_rfl) (fun val => ?_) ?_
  · try simp only [Act.put, List.setIfInBounds_toArray, List.set_cons_zero, List.set_cons_succ]
    refine RelO.next (k' := 1) rfl (fun W gW hF => ?_) ?_
    focus
      exact OpOK.load (by rfl) _ rfl (by rfl) (load_reg (HB.out W gW).1) (fun W' _ => rfl)
    try simp only [Act.put, List.setIfInBounds_toArray, List.set_cons_zero, List.set_cons_succ]
    refine RelO.next (k' := 2) rfl (fun W gW hF => ?_) ?_
    focus
      exact OpOK.val (u := .agg (vv f1)) (by rfl) (by go_simp; simp [f1]) (fun W' _ => rfl)
    try simp only [Act.put, List.setIfInBounds_toArray, List.set_cons_zero, List.set_cons_succ]
    refine RelO.next (k' := 3) rfl (fun W gW hF => ?_) ?_
    focus
      refine OpOK.call (by rfl) ?_ ((sib_any 0 1 [97] W).mono ?_)
      · first | (go_simp; done) | (go_simp; with_reducible rfl) | (go_simp; rfl)
      · rintro e W1 ⟨he, g1⟩
        subst he
        exact ⟨_, rfl, g1, fun W2 _ => rfl⟩
    try simp only [Act.put, List.setIfInBounds_toArray, List.set_cons_zero, List.set_cons_succ]
    refine RelO.next (k' := 4) rfl (fun W gW hF => ?_) ?_
    focus
      obtain ⟨h2, _⟩ := hF
      have e2 : val 2 = .agg #[.int .u8 0, .int .u32 1, .string (bs [97])] := h2 _ (Frm.refl _ W)
      try simp only [e2]
      try simp only [tupAt]
      refine OpOK.made (W' := W.alloc (.cells #[.int .u8 0, .int .u32 1, .string (bs [97])] 76)) (u := .slice (some ⟨W.heap.size, 0, none⟩) 1 1) (by rfl) ?_ ((Frm.refl _ W).alloc _) (fun W2 g2 => ⟨_, rfl, (OwnL.one W sA).keep g2 (fun _ _ h => h)⟩)
      first | (go_simp; done) | (go_simp; with_reducible rfl) | (go_simp; rfl)
    try simp only [Act.put, List.setIfInBounds_toArray, List.set_cons_zero, List.set_cons_succ]
    refine RelO.next (k' := 5) rfl (fun W gW hF => ?_) ?_
    focus
      obtain ⟨h0, h1, h3, _⟩ := hF
      have e0 : val 0 = rg f1 v1 := h0 _ (Frm.refl _ W)
      have e1 : val 1 = .agg (vv f1) := h1 _ (Frm.refl _ W)
      have q3 : ∃ x, (val 3) = x ∧ OwnL W x [sA] := h3 _ (Frm.refl _ W)
      obtain ⟨x21, e3, o21⟩ := q3
      try simp only [e3]
      try simp only [e1]
      try simp only [e0]
      try simp only [tupAt]
      refine OpOK.call (by rfl) ?_ ((is_any f1 f1 v1 x21 [sA] [sA] W (HS.out W gW).1 o21.sl).mono ?_)
      · first | (go_simp; done) | (go_simp; with_reducible rfl) | (go_simp; rfl)
      · rintro e W1 ⟨he, g1⟩
        rw [(by decide : (eq8 f1 f1 && decide ([sA] = [sA])) = true)] at he
        subst he
        exact ⟨_, rfl, g1, fun W2 _ => rfl⟩
    try simp only [Act.put, List.setIfInBounds_toArray, List.set_cons_zero, List.set_cons_succ]
    refine RelO.next (k' := 6) rfl (fun W gW hF => ?_) ?_
    focus
      obtain ⟨h4, _⟩ := hF
      have e4 : val 4 = .bool true := h4 _ (Frm.refl _ W)
      try simp only [e4]
      try simp only [tupAt]
      refine OpOK.val (u := .bool true) (by rfl) ?_ (fun W' _ => rfl)
      try simp only [e4]
      try simp only [tupAt]
      first | (go_simp; done) | (go_simp; with_reducible rfl) | (go_simp; rfl)
    try simp only [Act.put, List.setIfInBounds_toArray, List.set_cons_zero, List.set_cons_succ]
    refine RelO.next (k' := 7) rfl (fun W gW hF => ?_) ?_
    focus
      obtain ⟨h5, _⟩ := hF
      have e5 : val 5 = .bool true := h5 _ (Frm.refl _ W)
      try simp only [e5]
      try simp only [tupAt]
      exact OpOK.load (by rfl) _ rfl (by rfl) (load_dotB (HB.out W gW).2.1) (fun W' _ => rfl)
    try simp only [Act.put, List.setIfInBounds_toArray, List.set_cons_zero, List.set_cons_succ]
    refine RelO.next (k' := 8) rfl (fun W gW hF => ?_) ?_
    focus
      obtain ⟨h5, _⟩ := hF
      have e5 : val 5 = .bool true := h5 _ (Frm.refl _ W)
      try simp only [e5]
      try simp only [tupAt]
      refine OpOK.call (by rfl) ?_ ((dot_any 0 1 W).mono ?_)
      · first | (go_simp; done) | (go_simp; with_reducible rfl) | (go_simp; rfl)
      · rintro e W1 ⟨he, g1⟩
        subst he
        exact ⟨_, rfl, g1, fun W2 _ => rfl⟩
    try simp only [Act.put, List.setIfInBounds_toArray, List.set_cons_zero, List.set_cons_succ]
    refine RelO.next (k' := 9) rfl (fun W gW hF => ?_) ?_
    focus
      obtain ⟨h5, h6, h7, _⟩ := hF
      have e5 : val 5 = .bool true := h5 _ (Frm.refl _ W)
      have e6 : val 6 = .agg (dv 0 1) := h6 _ (Frm.refl _ W)
      have e7 : val 7 = .agg (dv 0 1) := h7 _ (Frm.refl _ W)
      try simp only [e7]
      try simp only [e6]
      try simp only [e5]
      try simp only [tupAt]
      refine OpOK.val (u := .bool true) (by rfl) ?_ (fun W' _ => rfl)
      try simp only [e7]
      try simp only [e6]
      try simp only [e5]
      try simp only [tupAt]
      first | (go_simp; done) | (go_simp; with_reducible rfl) | (go_simp; rfl)
    try simp only [Act.put, List.setIfInBounds_toArray, List.set_cons_zero, List.set_cons_succ]
    refine RelO.next (k' := 10) rfl (fun W gW hF => ?_) ?_
    focus
      obtain ⟨h5, h8, _⟩ := hF
      have e5 : val 5 = .bool true := h5 _ (Frm.refl _ W)
      have e8 : val 8 = .bool true := h8 _ (Frm.refl _ W)
      try simp only [e8]
      try simp only [e5]
      try simp only [tupAt]
      refine OpOK.val (u := .bool true) (by rfl) ?_ (fun W' _ => rfl)
      try simp only [e8]
      try simp only [e5]
      try simp only [tupAt]
      first | (go_simp; done) | (go_simp; with_reducible rfl) | (go_simp; rfl)
    try simp only [Act.put, List.setIfInBounds_toArray, List.set_cons_zero, List.set_cons_succ]
    refine RelO.next (k' := 11) rfl (fun W gW hF => ?_) ?_
    focus
      obtain ⟨h9, _⟩ := hF
      have e9 : val 9 = .bool true := h9 _ (Frm.refl _ W)
      try simp only [e9]
      try simp only [tupAt]
      refine OpOK.val (u := .bool true) (by rfl) ?_ (fun W' _ => rfl)
      try simp only [e9]
      try simp only [tupAt]
      first | (go_simp; done) | (go_simp; with_reducible rfl) | (go_simp; rfl)
    try simp only [Act.put, List.setIfInBounds_toArray, List.set_cons_zero, List.set_cons_succ]
    refine RelO.next (k' := 12) rfl (fun W gW hF => ?_) ?_
    focus
      obtain ⟨h10, _⟩ := hF
      have e10 : val 10 = .bool true := h10 _ (Frm.refl _ W)
      try simp only [e10]
      try simp only [tupAt]
      refine OpOK.val (u := .int .i64 0) (by rfl) ?_ (fun W' _ => rfl)
      try simp only [e10]
      try simp only [tupAt]
      first | (go_simp; done) | (go_simp; with_reducible rfl) | (go_simp; rfl)
    try simp only [Act.put, List.setIfInBounds_toArray, List.set_cons_zero, List.set_cons_succ]
    refine RelO.next (k' := 13) rfl (fun W gW hF => ?_) ?_
    focus
      obtain ⟨h10, h11, _⟩ := hF
      have e10 : val 10 = .bool true := h10 _ (Frm.refl _ W)
      have e11 : val 11 = .int .i64 0 := h11 _ (Frm.refl _ W)
      try simp only [e11]
      try simp only [e10]
      try simp only [tupAt]
      refine OpOK.val (u := .bool true) (by rfl) ?_ (fun W' _ => rfl)
      try simp only [e11]
      try simp only [e10]
      try simp only [tupAt]
      first | (go_simp; done) | (go_simp; with_reducible rfl) | (go_simp; rfl)
    try simp only [Act.put, List.setIfInBounds_toArray, List.set_cons_zero, List.set_cons_succ]
    refine RelO.next (k' := 14) rfl (fun W gW hF => ?_) ?_
    focus
      obtain ⟨h10, h12, _⟩ := hF
      have e10 : val 10 = .bool true := h10 _ (Frm.refl _ W)
      have e12 : val 12 = .bool true := h12 _ (Frm.refl _ W)
      try simp only [e12]
      try simp only [e10]
      try simp only [tupAt]
      refine OpOK.val (u := .bool true) (by rfl) ?_ (fun W' _ => rfl)
      try simp only [e12]
      try simp only [e10]
      try simp only [tupAt]
      first | (go_simp; done) | (go_simp; with_reducible rfl) | (go_simp; rfl)
    try simp only [Act.put, List.setIfInBounds_toArray, List.set_cons_zero, List.set_cons_succ]
    refine RelO.next (k' := 15) rfl (fun W gW hF => ?_) ?_
    focus
      obtain ⟨h13, _⟩ := hF
      have e13 : val 13 = .bool true := h13 _ (Frm.refl _ W)
      try simp only [e13]
      try simp only [tupAt]
      refine OpOK.val (u := .bool true) (by rfl) ?_ (fun W' _ => rfl)
      try simp only [e13]
      try simp only [tupAt]
      first | (go_simp; done) | (go_simp; with_reducible rfl) | (go_simp; rfl)
    try simp only [Act.put, List.setIfInBounds_toArray, List.set_cons_zero, List.set_cons_succ]
    refine RelO.next (k' := 16) rfl (fun W gW hF => ?_) ?_
    focus
      obtain ⟨h14, _⟩ := hF
      have e14 : val 14 = .bool true := h14 _ (Frm.refl _ W)
      try simp only [e14]
      try simp only [tupAt]
      exact OpOK.load (by rfl) _ rfl (by rfl) (load_reg (HB.out W gW).2.2) (fun W' _ => rfl)
    try simp only [Act.put, List.setIfInBounds_toArray, List.set_cons_zero, List.set_cons_succ]
    refine RelO.next (k' := 17) rfl (fun W gW hF => ?_) ?_
    focus
      obtain ⟨h14, _⟩ := hF
      have e14 : val 14 = .bool true := h14 _ (Frm.refl _ W)
      try simp only [e14]
      try simp only [tupAt]
      exact OpOK.val (u := .agg (vv f1)) (by rfl) (by go_simp; simp [f1]) (fun W' _ => rfl)
    try simp only [Act.put, List.setIfInBounds_toArray, List.set_cons_zero, List.set_cons_succ]
    refine RelO.next (k' := 18) rfl (fun W gW hF => ?_) ?_
    focus
      obtain ⟨h14, _⟩ := hF
      have e14 : val 14 = .bool true := h14 _ (Frm.refl _ W)
      try simp only [e14]
      try simp only [tupAt]
      refine OpOK.call (by rfl) ?_ ((sib_any 0 1 [97] W).mono ?_)
      · first | (go_simp; done) | (go_simp; with_reducible rfl) | (go_simp; rfl)
      · rintro e W1 ⟨he, g1⟩
        subst he
        exact ⟨_, rfl, g1, fun W2 _ => rfl⟩
    try simp only [Act.put, List.setIfInBounds_toArray, List.set_cons_zero, List.set_cons_succ]
    refine RelO.next (k' := 19) rfl (fun W gW hF => ?_) ?_
    focus
      obtain ⟨h14, h17, _⟩ := hF
      have e14 : val 14 = .bool true := h14 _ (Frm.refl _ W)
      have e17 : val 17 = .agg #[.int .u8 0, .int .u32 1, .string (bs [97])] := h17 _ (Frm.refl _ W)
      try simp only [e17]
      try simp only [e14]
      try simp only [tupAt]
      refine OpOK.made (W' := W.alloc (.cells #[.int .u8 0, .int .u32 1, .string (bs [97])] 76)) (u := .slice (some ⟨W.heap.size, 0, none⟩) 1 1) (by rfl) ?_ ((Frm.refl _ W).alloc _) (fun W2 g2 => ⟨_, rfl, (OwnL.one W sA).keep g2 (fun _ _ h => h)⟩)
      first | (go_simp; done) | (go_simp; with_reducible rfl) | (go_simp; rfl)
    try simp only [Act.put, List.setIfInBounds_toArray, List.set_cons_zero, List.set_cons_succ]
    refine RelO.next (k' := 20) rfl (fun W gW hF => ?_) ?_
    focus
      obtain ⟨h14, h15, h16, h18, _⟩ := hF
      have e14 : val 14 = .bool true := h14 _ (Frm.refl _ W)
      have e15 : val 15 = rg f1 v15 := h15 _ (Frm.refl _ W)
      have e16 : val 16 = .agg (vv f1) := h16 _ (Frm.refl _ W)
      have q18 : ∃ x, (val 18) = x ∧ OwnL W x [sA] := h18 _ (Frm.refl _ W)
      obtain ⟨x36, e18, o36⟩ := q18
      try simp only [e18]
      try simp only [e16]
      try simp only [e15]
      try simp only [e14]
      try simp only [tupAt]
      refine OpOK.call (by rfl) ?_ ((is_any f1 f1 v15 x36 [sA] [sA] W (HS.out W gW).2 o36.sl).mono ?_)
      · first | (go_simp; done) | (go_simp; with_reducible rfl) | (go_simp; rfl)
      · rintro e W1 ⟨he, g1⟩
        rw [(by decide : (eq8 f1 f1 && decide ([sA] = [sA])) = true)] at he
        subst he
        exact ⟨_, rfl, g1, fun W2 _ => rfl⟩
    try simp only [Act.put, List.setIfInBounds_toArray, List.set_cons_zero, List.set_cons_succ]
    refine RelO.next (k' := 21) rfl (fun W gW hF => ?_) ?_
    focus
      obtain ⟨h14, h19, _⟩ := hF
      have e14 : val 14 = .bool true := h14 _ (Frm.refl _ W)
      have e19 : val 19 = .bool true := h19 _ (Frm.refl _ W)
      try simp only [e19]
      try simp only [e14]
      try simp only [tupAt]
      refine OpOK.val (u := .bool true) (by rfl) ?_ (fun W' _ => rfl)
      try simp only [e19]
      try simp only [e14]
      try simp only [tupAt]
      first | (go_simp; done) | (go_simp; with_reducible rfl) | (go_simp; rfl)
    try simp only [Act.put, List.setIfInBounds_toArray, List.set_cons_zero, List.set_cons_succ]
    refine RelO.next (k' := 22) rfl (fun W gW hF => ?_) ?_
    focus
      obtain ⟨h20, _⟩ := hF
      have e20 : val 20 = .bool true := h20 _ (Frm.refl _ W)
      try simp only [e20]
      try simp only [tupAt]
      refine OpOK.val (u := .bool true) (by rfl) ?_ (fun W' _ => rfl)
      try simp only [e20]
      try simp only [tupAt]
      first | (go_simp; done) | (go_simp; with_reducible rfl) | (go_simp; rfl)
    try simp only [Act.put, List.setIfInBounds_toArray, List.set_cons_zero, List.set_cons_succ]
    refine RelO.next (k' := 23) rfl (fun W gW hF => ?_) ?_
    focus
      obtain ⟨h21, _⟩ := hF
      have e21 : val 21 = .bool true := h21 _ (Frm.refl _ W)
      try simp only [e21]
      try simp only [tupAt]
      refine OpOK.val (u := .int .i64 0) (by rfl) ?_ (fun W' _ => rfl)
      try simp only [e21]
      try simp only [tupAt]
      first | (go_simp; done) | (go_simp; with_reducible rfl) | (go_simp; rfl)
    try simp only [Act.put, List.setIfInBounds_toArray, List.set_cons_zero, List.set_cons_succ]
    refine RelO.next (k' := 24) rfl (fun W gW hF => ?_) ?_
    focus
      obtain ⟨h21, h22, _⟩ := hF
      have e21 : val 21 = .bool true := h21 _ (Frm.refl _ W)
      have e22 : val 22 = .int .i64 0 := h22 _ (Frm.refl _ W)
      try simp only [e22]
      try simp only [e21]
      try simp only [tupAt]
      refine OpOK.val (u := .bool true) (by rfl) ?_ (fun W' _ => rfl)
      try simp only [e22]
      try simp only [e21]
      try simp only [tupAt]
      first | (go_simp; done) | (go_simp; with_reducible rfl) | (go_simp; rfl)
    try simp only [Act.put, List.setIfInBounds_toArray, List.set_cons_zero, List.set_cons_succ]
    refine RelO.next (k' := 25) rfl (fun W gW hF => ?_) ?_
    focus
      obtain ⟨h21, h23, _⟩ := hF
      have e21 : val 21 = .bool true := h21 _ (Frm.refl _ W)
      have e23 : val 23 = .bool true := h23 _ (Frm.refl _ W)
      try simp only [e23]
      try simp only [e21]
      try simp only [tupAt]
      refine OpOK.val (u := .bool true) (by rfl) ?_ (fun W' _ => rfl)
      try simp only [e23]
      try simp only [e21]
      try simp only [tupAt]
      first | (go_simp; done) | (go_simp; with_reducible rfl) | (go_simp; rfl)
    try simp only [Act.put, List.setIfInBounds_toArray, List.set_cons_zero, List.set_cons_succ]
    refine RelO.next (k' := 26) rfl (fun W gW hF => ?_) ?_
    focus
      obtain ⟨h24, _⟩ := hF
      have e24 : val 24 = .bool true := h24 _ (Frm.refl _ W)
      try simp only [e24]
      try simp only [tupAt]
      refine OpOK.val (u := .bool true) (by rfl) ?_ (fun W' _ => rfl)
      try simp only [e24]
      try simp only [tupAt]
      first | (go_simp; done) | (go_simp; with_reducible rfl) | (go_simp; rfl)
    try simp only [Act.put, List.setIfInBounds_toArray, List.set_cons_zero, List.set_cons_succ]
    refine RelO.next (k' := 27) rfl (fun W gW hF => ?_) ?_
    focus
      obtain ⟨h25, _⟩ := hF
      have e25 : val 25 = .bool true := h25 _ (Frm.refl _ W)
      try simp only [e25]
      try simp only [tupAt]
      exact OpOK.load (by rfl) _ rfl (by rfl) (load_reg (HB.out W gW).1) (fun W' _ => rfl)
    try simp only [Act.put, List.setIfInBounds_toArray, List.set_cons_zero, List.set_cons_succ]
    refine RelO.next (k' := 28) rfl (fun W gW hF => ?_) ?_
    focus
      obtain ⟨h25, _⟩ := hF
      have e25 : val 25 = .bool true := h25 _ (Frm.refl _ W)
      try simp only [e25]
      try simp only [tupAt]
      exact OpOK.load (by rfl) _ rfl (by rfl) (load_reg (HB.out W gW).2.2) (fun W' _ => rfl)
    try simp only [Act.put, List.setIfInBounds_toArray, List.set_cons_zero, List.set_cons_succ]
    refine RelO.next (k' := 29) rfl (fun W gW hF => ?_) ?_
    focus
      obtain ⟨h25, h26, h27, _⟩ := hF
      have e25 : val 25 = .bool true := h25 _ (Frm.refl _ W)
      have e26 : val 26 = rg f1 v1 := h26 _ (Frm.refl _ W)
      have e27 : val 27 = rg f1 v15 := h27 _ (Frm.refl _ W)
      try simp only [e27]
      try simp only [e26]
      try simp only [e25]
      try simp only [tupAt]
      refine OpOK.call (by rfl) ?_ ((same_any f1 f1 v1 v15 [sA] [sA] W (HS.out W gW).1 (HS.out W gW).2).mono ?_)
      · first | (go_simp; done) | (go_simp; with_reducible rfl) | (go_simp; rfl)
      · rintro e W1 ⟨he, g1⟩
        rw [(by decide : (eq8 f1 f1 && decide ([sA].map SibI.d = [sA].map SibI.d)) = true)] at he
        subst he
        exact ⟨_, rfl, g1, fun W2 _ => rfl⟩
    try simp only [Act.put, List.setIfInBounds_toArray, List.set_cons_zero, List.set_cons_succ]
    refine RelO.next (k' := 30) rfl (fun W gW hF => ?_) ?_
    focus
      obtain ⟨h25, h28, _⟩ := hF
      have e25 : val 25 = .bool true := h25 _ (Frm.refl _ W)
      have e28 : val 28 = .bool true := h28 _ (Frm.refl _ W)
      try simp only [e28]
      try simp only [e25]
      try simp only [tupAt]
      refine OpOK.val (u := .bool true) (by rfl) ?_ (fun W' _ => rfl)
      try simp only [e28]
      try simp only [e25]
      try simp only [tupAt]
      first | (go_simp; done) | (go_simp; with_reducible rfl) | (go_simp; rfl)
    try simp only [Act.put, List.setIfInBounds_toArray, List.set_cons_zero, List.set_cons_succ]
    exact RelO.nil
  intro val W gW hF
  obtain ⟨h0, h1, h2, h3, h4, h5, h6, h7, h8, h9, h10, h11, h12, h13, h14, h15, h16, h17, h18, h19, h20, h21, h22, h23, h24, h25, h26, h27, h28, h29, _⟩ := hF
  have e0 : val 0 = rg f1 v1 := h0 _ (Frm.refl _ W)
  have e1 : val 1 = .agg (vv f1) := h1 _ (Frm.refl _ W)
  have e2 : val 2 = .agg #[.int .u8 0, .int .u32 1, .string (bs [97])] := h2 _ (Frm.refl _ W)
  have q3 : ∃ x, (val 3) = x ∧ OwnL W x [sA] := h3 _ (Frm.refl _ W)
  obtain ⟨x21, e3, o21⟩ := q3
  have e4 : val 4 = .bool true := h4 _ (Frm.refl _ W)
  have e5 : val 5 = .bool true := h5 _ (Frm.refl _ W)
  have e6 : val 6 = .agg (dv 0 1) := h6 _ (Frm.refl _ W)
  have e7 : val 7 = .agg (dv 0 1) := h7 _ (Frm.refl _ W)
  have e8 : val 8 = .bool true := h8 _ (Frm.refl _ W)
  have e9 : val 9 = .bool true := h9 _ (Frm.refl _ W)
  have e10 : val 10 = .bool true := h10 _ (Frm.refl _ W)
  have e11 : val 11 = .int .i64 0 := h11 _ (Frm.refl _ W)
  have e12 : val 12 = .bool true := h12 _ (Frm.refl _ W)
  have e13 : val 13 = .bool true := h13 _ (Frm.refl _ W)
  have e14 : val 14 = .bool true := h14 _ (Frm.refl _ W)
  have e15 : val 15 = rg f1 v15 := h15 _ (Frm.refl _ W)
  have e16 : val 16 = .agg (vv f1) := h16 _ (Frm.refl _ W)
  have e17 : val 17 = .agg #[.int .u8 0, .int .u32 1, .string (bs [97])] := h17 _ (Frm.refl _ W)
  have q18 : ∃ x, (val 18) = x ∧ OwnL W x [sA] := h18 _ (Frm.refl _ W)
  obtain ⟨x36, e18, o36⟩ := q18
  have e19 : val 19 = .bool true := h19 _ (Frm.refl _ W)
  have e20 : val 20 = .bool true := h20 _ (Frm.refl _ W)
  have e21 : val 21 = .bool true := h21 _ (Frm.refl _ W)
  have e22 : val 22 = .int .i64 0 := h22 _ (Frm.refl _ W)
  have e23 : val 23 = .bool true := h23 _ (Frm.refl _ W)
  have e24 : val 24 = .bool true := h24 _ (Frm.refl _ W)
  have e25 : val 25 = .bool true := h25 _ (Frm.refl _ W)
  have e26 : val 26 = rg f1 v1 := h26 _ (Frm.refl _ W)
  have e27 : val 27 = rg f1 v15 := h27 _ (Frm.refl _ W)
  have e28 : val 28 = .bool true := h28 _ (Frm.refl _ W)
  have e29 : val 29 = .bool true := h29 _ (Frm.refl _ W)
  clear h0 h1 h2 h3 h4 h5 h6 h7 h8 h9 h10 h11 h12 h13 h14 h15 h16 h17 h18 h19 h20 h21 h22 h23 h24 h25 h26 h27 h28 h29
  simp only [aO, Act.put, List.setIfInBounds_toArray, List.set_cons_zero, List.set_cons_succ, Nat.reduceAdd]
  try simp only [e29]
  try simp only [e28]
  try simp only [e27]
  try simp only [e26]
  try simp only [e25]
  try simp only [e24]
  try simp only [e23]
  try simp only [e22]
  try simp only [e21]
  try simp only [e20]
  try simp only [e19]
  try simp only [e18]
  try simp only [e17]
  try simp only [e16]
  try simp only [e15]
  try simp only [e14]
  try simp only [e13]
  try simp only [e12]
  try simp only [e11]
  try simp only [e10]
  try simp only [e9]
  try simp only [e8]
  try simp only [e7]
  try simp only [e6]
  try simp only [e5]
  try simp only [e4]
  try simp only [e3]
  try simp only [e2]
  try simp only [e1]
  try simp only [e0]
  try simp only [tupAt]
  refine wpTail.assign (v := .bool true) rfl rfl rfl rfl rfl ?_
  try simp only [Act.put, List.setIfInBounds_toArray, List.set_cons_zero]
  refine wpTail.doneN ?_
  refine hK2 _ _ ?_
  go_wp2_with fail
  refine bodyPost_ret (v := .bool true) (by simp [results, Try.results16, go_sem]) rfl ?_
  exact ⟨rfl, gg.trans ((Frm.refl _ w3).drew.trans gW)⟩
end Go.Proofs.Ytojbgckabifnjaa

