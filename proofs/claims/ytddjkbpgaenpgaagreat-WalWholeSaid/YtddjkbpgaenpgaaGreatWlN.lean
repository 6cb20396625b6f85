/- What reading one half of a log answers and leaves. No condition. -/
import Derived.Test.YtddjkbpgaenpgaaGreatWlL
import Derived.Test.YtddjkbpgaenpgaaGreatLate
namespace Go.Proofs.YtddjkbpgaenpgaaGreat
open Go.RowKit Go.Shelf

def hrdM : List Nat := [1, 2, 4, 12, 28, 60, 124, 252, 508, 512, 1536, 3584, 7680, 8192, 24576, 57344, 122880, 253952, 516096, 1040384, 2096640, 2097152, 6291456, 14680064, 31457280, 65011712, 132120576, 266338304, 536870908, 1073741820, 2147483644, 3221225468, 5368709116, 10737418237, 19327352829, 36507222013, 70866960381, 139586437117, 277025390589, 551903297533]
def hrdR (hb q l s n m p1 p3 K : Nat) (gsl : List (List UInt8)) : List ((Nat → Value) → World → Prop) := [
  fun val _ => val 0 = .pointer (some ⟨hb, 0, none⟩),
  fun val _ => val 1 = .pointer (some ⟨hb, 0, none⟩),
  fun val _ => val 2 = .pointer (some ⟨hb, 0, none⟩),
  fun val _ => val 3 = .pointer (some ⟨hb, 0, none⟩),
  fun val _ => val 4 = .pointer (some ⟨hb, 0, none⟩),
  fun val _ => val 5 = .pointer (some ⟨q, 0, none⟩),
  fun val _ => val 6 = .pointer (some ⟨q, 0, none⟩),
  fun val _ => val 7 = .pointer (some ⟨q, 1, none⟩),
  fun val _ => val 8 = .pointer (some ⟨l, 0, none⟩),
  fun val _ => val 9 = .pointer (some ⟨hb, 0, none⟩),
  fun val _ => val 10 = .pointer (some ⟨hb, 0, none⟩),
  fun val _ => val 11 = .pointer (some ⟨hb, 1, none⟩),
  fun val _ => val 12 = .int .i64 (s : Nat),
  fun val _ => val 13 = .pointer (some ⟨hb, 0, none⟩),
  fun val _ => val 14 = .pointer (some ⟨hb, 0, none⟩),
  fun val _ => val 15 = .pointer (some ⟨hb, 0, none⟩),
  fun val _ => val 16 = .pointer (some ⟨q, 0, none⟩),
  fun val _ => val 17 = .pointer (some ⟨q, 0, none⟩),
  fun val _ => val 18 = .pointer (some ⟨q, 2, none⟩),
  fun val _ => val 19 = .int .i64 (n : Nat),
  fun val _ => val 20 = .int .i64 (m : Nat),
  fun val _ => val 21 = .pointer (some ⟨hb, 0, none⟩),
  fun val _ => val 22 = .pointer (some ⟨hb, 0, none⟩),
  fun val _ => val 23 = .pointer (some ⟨hb, 0, none⟩),
  fun val _ => val 24 = .pointer (some ⟨q, 0, none⟩),
  fun val _ => val 25 = .pointer (some ⟨q, 0, none⟩),
  fun val _ => val 26 = .pointer (some ⟨q, 2, none⟩),
  fun val _ => val 27 = .int .i64 (n : Nat),
  fun val W => ∃ v, (val 28) = .tuple #[.int .u32 (p1 : Nat), v, .int .i64 (p3 : Nat)] ∧ OwnS W v gsl ∧ ∀ g, v.ownBlock = some g → K ≤ g,
  fun val _ => val 29 = (val 28),
  fun val _ => val 30 = tupAt (val 29) 0,
  fun val _ => val 31 = tupAt (val 29) 1,
  fun val _ => val 32 = tupAt (val 29) 2]
set_option maxRecDepth 100000 in
set_option maxHeartbeats 8000000 in
theorem hread_any (hb q l b f x : Nat) (V : WV) (rp : Option Addr) (L : LV) (s g0 : Nat) (v0 : Value) (w : World) (hB : Blk w hb 149 #[.pointer (some ⟨q, 0, none⟩), .int .i64 (s : Nat), .int .u32 (g0 : Nat), v0]) (h : Wlk w q l V rp) (hl : LnM w l b f x L) (hs : s ≤ 1) (hn : V.n ≤ 2048) :
    Calls Tryz.prog 96 #[.pointer (some ⟨hb, 0, none⟩)] w fun e w' => e = .returned (.int .i64 ((rdR L ((s * V.n : Nat) : Int) (V.n : Nat)).2.2 : Nat)) ∧
      ∃ v, Blk w' hb 149 #[.pointer (some ⟨q, 0, none⟩), .int .i64 (s : Nat), .int .u32 ((rdR L ((s * V.n : Nat) : Int) (V.n : Nat)).1 : Nat), v] ∧ OwnS w' v (rdR L ((s * V.n : Nat) : Int) (V.n : Nat)).2.1 ∧ (∀ g, v.ownBlock = some g → w.heap.size ≤ g) ∧ Frm (· = hb) w w' := by
  have hm : s * V.n ≤ 2048 := by
    rcases (by omega : s = 0 ∨ s = 1) with rfl | rfl <;> omega
  have hw1 : IntKind.i64.wrap ((s : Int) * (V.n : Int)) = ((s * V.n : Nat) : Int) := by rw [← Int.natCast_mul]; exact IntWalk.i64_in _ (by omega)
  have HRd := fun W (gW : Frm (fun _ => False) w W) => rgread_any l b f x L ((s * V.n : Nat) : Int) (V.n : Nat) W (hl.keepF gW) (by unfold Z64; omega) (by unfold Z64; omega)
  unfold ReadTo at HRd
  obtain ⟨m, hmm⟩ : ∃ m, s * V.n = m := ⟨_, rfl⟩
  obtain ⟨n, hnn⟩ : ∃ n, V.n = n := ⟨_, rfl⟩
  rw [hmm, hnn] at HRd
  rw [hmm, hnn] at hw1
  rw [hmm, hnn]
  obtain ⟨⟨p1, gsl, p3⟩, hp⟩ : ∃ p, rdR L (m : Int) (n : Int) = p := ⟨_, rfl⟩
  rw [hp] at HRd ⊢
  have HRd := Lib.hid HRd
  have HW := Lib.hid hw1
  have HB : Hid (∀ W, Frm (fun _ => False) w W → Blk W hb 149 #[.pointer (some ⟨q, 0, none⟩), .int .i64 (s : Nat), .int .u32 (g0 : Nat), v0]) := Lib.hid fun W g => hB.keep g (fun h => h)
  have HQ : Hid (∀ W, Frm (fun _ => False) w W → Blk W q 91 #[.pointer (some ⟨q, 0, none⟩), .pointer (some ⟨l, 0, none⟩), .int .i64 (n : Nat), .int .i64 (V.side : Nat), .int .u32 (V.gen : Nat), .pointer rp, .bool V.dead]) := Lib.hid fun W g => by have := h.keepF g; unfold Wlk at this; rwa [hnn] at this
  obtain ⟨K, hK0⟩ : ∃ K, w.heap.size = K := ⟨_, rfl⟩
  have HK : Hid (∀ W, Frm (fun _ => False) w W → K ≤ W.heap.size) := Lib.hid fun W g => hK0 ▸ g.size
  have hbl : hb < K := by rw [← hK0]; exact hB.lt
  have HBL := Lib.hid hbl
  rw [hK0]
  clear h hl hB hm hw1 hmm hnn hp hK0 hbl
  go_enter Tryz.func96, Tryz.ntmps96
  go_upto_region 1 with fail
  rename_i hK
  have D : Frm (fun _ => False) w w.drew := (Frm.refl _ _).drew
  refine wp_region_late 33 7 [1, 31, 32] [[], [], [], [2], [3], [4], [5], [6], [7], [], [9], [10], [11], [], [13], [14], [15], [16], [17], [18], [12, 19], [], [21], [22], [23], [24], [25], [26], [8, 20, 27], [28], [28, 29], [28, 29], [28, 29]] hrdM (hrdR hb q l s n m p1 p3 K gsl) (by kernel_rfl) rfl rfl rfl (by kernel_rfl) (by kernel_rfl) (by kernel_rfl) (by kernel_rfl) rfl (by kernel_rfl) (by kernel_rfl) (by kernel_rfl) (by kernel_rfl) (fun val => ?_) ?_
  · try dsimp only
    refine RelO.next (k' := 1) rfl (fun W gW hF => ?_) ?_
    focus
      refine OpOK.val (u := .pointer (some ⟨hb, 0, none⟩)) (by rfl) ?_ (fun W' _ => rfl)
      try simp only [tupAt]
      first | (go_simp; done) | (go_simp; with_reducible rfl) | (go_simp; rfl)
    try simp only [Act.put, List.setIfInBounds_toArray, List.set_cons_zero, List.set_cons_succ]
    refine RelO.next (k' := 2) rfl (fun W gW hF => ?_) ?_
    focus
      refine OpOK.val (u := .pointer (some ⟨hb, 0, none⟩)) (by rfl) ?_ (fun W' _ => rfl)
      try simp only [tupAt]
      first | (go_simp; done) | (go_simp; with_reducible rfl) | (go_simp; rfl)
    try simp only [Act.put, List.setIfInBounds_toArray, List.set_cons_zero, List.set_cons_succ]
    refine RelO.next (k' := 3) rfl (fun W gW hF => ?_) ?_
    focus
      refine OpOK.val (u := .pointer (some ⟨hb, 0, none⟩)) (by rfl) ?_ (fun W' _ => rfl)
      try simp only [tupAt]
      first | (go_simp; done) | (go_simp; with_reducible rfl) | (go_simp; rfl)
    try simp only [Act.put, List.setIfInBounds_toArray, List.set_cons_zero, List.set_cons_succ]
    refine RelO.next (k' := 4) rfl (fun W gW hF => ?_) ?_
    focus
      obtain ⟨h2, _⟩ := hF
      have e2 : val 2 = .pointer (some ⟨hb, 0, none⟩) := h2 _ (Frm.refl _ W)
      try simp only [e2]
      try simp only [tupAt]
      refine OpOK.val (u := .pointer (some ⟨hb, 0, none⟩)) (by rfl) ?_ (fun W' _ => rfl)
      try simp only [e2]
      try simp only [tupAt]
      first | (go_simp; done) | (go_simp; with_reducible rfl) | (go_simp; rfl)
    try simp only [Act.put, List.setIfInBounds_toArray, List.set_cons_zero, List.set_cons_succ]
    refine RelO.next (k' := 5) rfl (fun W gW hF => ?_) ?_
    focus
      obtain ⟨h3, _⟩ := hF
      have e3 : val 3 = .pointer (some ⟨hb, 0, none⟩) := h3 _ (Frm.refl _ W)
      try simp only [e3]
      try simp only [tupAt]
      refine OpOK.val (u := .pointer (some ⟨hb, 0, none⟩)) (by rfl) ?_ (fun W' _ => rfl)
      try simp only [e3]
      try simp only [tupAt]
      first | (go_simp; done) | (go_simp; with_reducible rfl) | (go_simp; rfl)
    try simp only [Act.put, List.setIfInBounds_toArray, List.set_cons_zero, List.set_cons_succ]
    refine RelO.next (k' := 6) rfl (fun W gW hF => ?_) ?_
    focus
      obtain ⟨h4, _⟩ := hF
      have e4 : val 4 = .pointer (some ⟨hb, 0, none⟩) := h4 _ (Frm.refl _ W)
      try simp only [e4]
      try simp only [tupAt]
      have c0 := (HB.out W (D.trans gW)).cell 0 rfl
      exact OpOK.val (u := .pointer (some ⟨q, 0, none⟩)) (by rfl) (by first | (go_simp; done) | (go_simp; with_reducible rfl) | (go_simp; rfl)) (fun W' _ => rfl)
    try simp only [Act.put, List.setIfInBounds_toArray, List.set_cons_zero, List.set_cons_succ]
    refine RelO.next (k' := 7) rfl (fun W gW hF => ?_) ?_
    focus
      obtain ⟨h5, _⟩ := hF
      have e5 : val 5 = .pointer (some ⟨q, 0, none⟩) := h5 _ (Frm.refl _ W)
      try simp only [e5]
      try simp only [tupAt]
      refine OpOK.val (u := .pointer (some ⟨q, 0, none⟩)) (by rfl) ?_ (fun W' _ => rfl)
      try simp only [e5]
      try simp only [tupAt]
      first | (go_simp; done) | (go_simp; with_reducible rfl) | (go_simp; rfl)
    try simp only [Act.put, List.setIfInBounds_toArray, List.set_cons_zero, List.set_cons_succ]
    refine RelO.next (k' := 8) rfl (fun W gW hF => ?_) ?_
    focus
      obtain ⟨h6, _⟩ := hF
      have e6 : val 6 = .pointer (some ⟨q, 0, none⟩) := h6 _ (Frm.refl _ W)
      try simp only [e6]
      try simp only [tupAt]
      refine OpOK.val (u := .pointer (some ⟨q, 1, none⟩)) (by rfl) ?_ (fun W' _ => rfl)
      try simp only [e6]
      try simp only [tupAt]
      first | (go_simp; done) | (go_simp; with_reducible rfl) | (go_simp; rfl)
    try simp only [Act.put, List.setIfInBounds_toArray, List.set_cons_zero, List.set_cons_succ]
    refine RelO.next (k' := 9) rfl (fun W gW hF => ?_) ?_
    focus
      obtain ⟨h7, _⟩ := hF
      have e7 : val 7 = .pointer (some ⟨q, 1, none⟩) := h7 _ (Frm.refl _ W)
      try simp only [e7]
      try simp only [tupAt]
      have c0 := (HQ.out W (D.trans gW)).cell 1 rfl
      exact OpOK.val (u := .pointer (some ⟨l, 0, none⟩)) (by rfl) (by first | (go_simp; done) | (go_simp; with_reducible rfl) | (go_simp; rfl)) (fun W' _ => rfl)
    try simp only [Act.put, List.setIfInBounds_toArray, List.set_cons_zero, List.set_cons_succ]
    refine RelO.next (k' := 10) rfl (fun W gW hF => ?_) ?_
    focus
      refine OpOK.val (u := .pointer (some ⟨hb, 0, none⟩)) (by rfl) ?_ (fun W' _ => rfl)
      try simp only [tupAt]
      first | (go_simp; done) | (go_simp; with_reducible rfl) | (go_simp; rfl)
    try simp only [Act.put, List.setIfInBounds_toArray, List.set_cons_zero, List.set_cons_succ]
    refine RelO.next (k' := 11) rfl (fun W gW hF => ?_) ?_
    focus
      obtain ⟨h9, _⟩ := hF
      have e9 : val 9 = .pointer (some ⟨hb, 0, none⟩) := h9 _ (Frm.refl _ W)
      try simp only [e9]
      try simp only [tupAt]
      refine OpOK.val (u := .pointer (some ⟨hb, 0, none⟩)) (by rfl) ?_ (fun W' _ => rfl)
      try simp only [e9]
      try simp only [tupAt]
      first | (go_simp; done) | (go_simp; with_reducible rfl) | (go_simp; rfl)
    try simp only [Act.put, List.setIfInBounds_toArray, List.set_cons_zero, List.set_cons_succ]
    refine RelO.next (k' := 12) rfl (fun W gW hF => ?_) ?_
    focus
      obtain ⟨h10, _⟩ := hF
      have e10 : val 10 = .pointer (some ⟨hb, 0, none⟩) := h10 _ (Frm.refl _ W)
      try simp only [e10]
      try simp only [tupAt]
      refine OpOK.val (u := .pointer (some ⟨hb, 1, none⟩)) (by rfl) ?_ (fun W' _ => rfl)
      try simp only [e10]
      try simp only [tupAt]
      first | (go_simp; done) | (go_simp; with_reducible rfl) | (go_simp; rfl)
    try simp only [Act.put, List.setIfInBounds_toArray, List.set_cons_zero, List.set_cons_succ]
    refine RelO.next (k' := 13) rfl (fun W gW hF => ?_) ?_
    focus
      obtain ⟨h11, _⟩ := hF
      have e11 : val 11 = .pointer (some ⟨hb, 1, none⟩) := h11 _ (Frm.refl _ W)
      try simp only [e11]
      try simp only [tupAt]
      have c0 := (HB.out W (D.trans gW)).cell 1 rfl
      exact OpOK.val (u := .int .i64 (s : Nat)) (by rfl) (by first | (go_simp; done) | (go_simp; with_reducible rfl) | (go_simp; rfl)) (fun W' _ => rfl)
    try simp only [Act.put, List.setIfInBounds_toArray, List.set_cons_zero, List.set_cons_succ]
    refine RelO.next (k' := 14) rfl (fun W gW hF => ?_) ?_
    focus
      refine OpOK.val (u := .pointer (some ⟨hb, 0, none⟩)) (by rfl) ?_ (fun W' _ => rfl)
      try simp only [tupAt]
      first | (go_simp; done) | (go_simp; with_reducible rfl) | (go_simp; rfl)
    try simp only [Act.put, List.setIfInBounds_toArray, List.set_cons_zero, List.set_cons_succ]
    refine RelO.next (k' := 15) rfl (fun W gW hF => ?_) ?_
    focus
      obtain ⟨h13, _⟩ := hF
      have e13 : val 13 = .pointer (some ⟨hb, 0, none⟩) := h13 _ (Frm.refl _ W)
      try simp only [e13]
      try simp only [tupAt]
      refine OpOK.val (u := .pointer (some ⟨hb, 0, none⟩)) (by rfl) ?_ (fun W' _ => rfl)
      try simp only [e13]
      try simp only [tupAt]
      first | (go_simp; done) | (go_simp; with_reducible rfl) | (go_simp; rfl)
    try simp only [Act.put, List.setIfInBounds_toArray, List.set_cons_zero, List.set_cons_succ]
    refine RelO.next (k' := 16) rfl (fun W gW hF => ?_) ?_
    focus
      obtain ⟨h14, _⟩ := hF
      have e14 : val 14 = .pointer (some ⟨hb, 0, none⟩) := h14 _ (Frm.refl _ W)
      try simp only [e14]
      try simp only [tupAt]
      refine OpOK.val (u := .pointer (some ⟨hb, 0, none⟩)) (by rfl) ?_ (fun W' _ => rfl)
      try simp only [e14]
      try simp only [tupAt]
      first | (go_simp; done) | (go_simp; with_reducible rfl) | (go_simp; rfl)
    try simp only [Act.put, List.setIfInBounds_toArray, List.set_cons_zero, List.set_cons_succ]
    refine RelO.next (k' := 17) rfl (fun W gW hF => ?_) ?_
    focus
      obtain ⟨h15, _⟩ := hF
      have e15 : val 15 = .pointer (some ⟨hb, 0, none⟩) := h15 _ (Frm.refl _ W)
      try simp only [e15]
      try simp only [tupAt]
      have c0 := (HB.out W (D.trans gW)).cell 0 rfl
      exact OpOK.val (u := .pointer (some ⟨q, 0, none⟩)) (by rfl) (by first | (go_simp; done) | (go_simp; with_reducible rfl) | (go_simp; rfl)) (fun W' _ => rfl)
    try simp only [Act.put, List.setIfInBounds_toArray, List.set_cons_zero, List.set_cons_succ]
    refine RelO.next (k' := 18) rfl (fun W gW hF => ?_) ?_
    focus
      obtain ⟨h16, _⟩ := hF
      have e16 : val 16 = .pointer (some ⟨q, 0, none⟩) := h16 _ (Frm.refl _ W)
      try simp only [e16]
      try simp only [tupAt]
      refine OpOK.val (u := .pointer (some ⟨q, 0, none⟩)) (by rfl) ?_ (fun W' _ => rfl)
      try simp only [e16]
      try simp only [tupAt]
      first | (go_simp; done) | (go_simp; with_reducible rfl) | (go_simp; rfl)
    try simp only [Act.put, List.setIfInBounds_toArray, List.set_cons_zero, List.set_cons_succ]
    refine RelO.next (k' := 19) rfl (fun W gW hF => ?_) ?_
    focus
      obtain ⟨h17, _⟩ := hF
      have e17 : val 17 = .pointer (some ⟨q, 0, none⟩) := h17 _ (Frm.refl _ W)
      try simp only [e17]
      try simp only [tupAt]
      refine OpOK.val (u := .pointer (some ⟨q, 2, none⟩)) (by rfl) ?_ (fun W' _ => rfl)
      try simp only [e17]
      try simp only [tupAt]
      first | (go_simp; done) | (go_simp; with_reducible rfl) | (go_simp; rfl)
    try simp only [Act.put, List.setIfInBounds_toArray, List.set_cons_zero, List.set_cons_succ]
    refine RelO.next (k' := 20) rfl (fun W gW hF => ?_) ?_
    focus
      obtain ⟨h18, _⟩ := hF
      have e18 : val 18 = .pointer (some ⟨q, 2, none⟩) := h18 _ (Frm.refl _ W)
      try simp only [e18]
      try simp only [tupAt]
      have c0 := (HQ.out W (D.trans gW)).cell 2 rfl
      exact OpOK.val (u := .int .i64 (n : Nat)) (by rfl) (by first | (go_simp; done) | (go_simp; with_reducible rfl) | (go_simp; rfl)) (fun W' _ => rfl)
    try simp only [Act.put, List.setIfInBounds_toArray, List.set_cons_zero, List.set_cons_succ]
    refine RelO.next (k' := 21) rfl (fun W gW hF => ?_) ?_
    focus
      obtain ⟨h12, h19, _⟩ := hF
      have e12 : val 12 = .int .i64 (s : Nat) := h12 _ (Frm.refl _ W)
      have e19 : val 19 = .int .i64 (n : Nat) := h19 _ (Frm.refl _ W)
      try simp only [e19]
      try simp only [e12]
      try simp only [tupAt]
      have hw1 := HW.out
      exact OpOK.val (u := .int .i64 (m : Nat)) (by rfl) (by first | (go_simp; done) | (go_simp; with_reducible rfl) | (go_simp; rfl)) (fun W' _ => rfl)
    try simp only [Act.put, List.setIfInBounds_toArray, List.set_cons_zero, List.set_cons_succ]
    refine RelO.next (k' := 22) rfl (fun W gW hF => ?_) ?_
    focus
      refine OpOK.val (u := .pointer (some ⟨hb, 0, none⟩)) (by rfl) ?_ (fun W' _ => rfl)
      try simp only [tupAt]
      first | (go_simp; done) | (go_simp; with_reducible rfl) | (go_simp; rfl)
    try simp only [Act.put, List.setIfInBounds_toArray, List.set_cons_zero, List.set_cons_succ]
    refine RelO.next (k' := 23) rfl (fun W gW hF => ?_) ?_
    focus
      obtain ⟨h21, _⟩ := hF
      have e21 : val 21 = .pointer (some ⟨hb, 0, none⟩) := h21 _ (Frm.refl _ W)
      try simp only [e21]
      try simp only [tupAt]
      refine OpOK.val (u := .pointer (some ⟨hb, 0, none⟩)) (by rfl) ?_ (fun W' _ => rfl)
      try simp only [e21]
      try simp only [tupAt]
      first | (go_simp; done) | (go_simp; with_reducible rfl) | (go_simp; rfl)
    try simp only [Act.put, List.setIfInBounds_toArray, List.set_cons_zero, List.set_cons_succ]
    refine RelO.next (k' := 24) rfl (fun W gW hF => ?_) ?_
    focus
      obtain ⟨h22, _⟩ := hF
      have e22 : val 22 = .pointer (some ⟨hb, 0, none⟩) := h22 _ (Frm.refl _ W)
      try simp only [e22]
      try simp only [tupAt]
      refine OpOK.val (u := .pointer (some ⟨hb, 0, none⟩)) (by rfl) ?_ (fun W' _ => rfl)
      try simp only [e22]
      try simp only [tupAt]
      first | (go_simp; done) | (go_simp; with_reducible rfl) | (go_simp; rfl)
    try simp only [Act.put, List.setIfInBounds_toArray, List.set_cons_zero, List.set_cons_succ]
    refine RelO.next (k' := 25) rfl (fun W gW hF => ?_) ?_
    focus
      obtain ⟨h23, _⟩ := hF
      have e23 : val 23 = .pointer (some ⟨hb, 0, none⟩) := h23 _ (Frm.refl _ W)
      try simp only [e23]
      try simp only [tupAt]
      have c0 := (HB.out W (D.trans gW)).cell 0 rfl
      exact OpOK.val (u := .pointer (some ⟨q, 0, none⟩)) (by rfl) (by first | (go_simp; done) | (go_simp; with_reducible rfl) | (go_simp; rfl)) (fun W' _ => rfl)
    try simp only [Act.put, List.setIfInBounds_toArray, List.set_cons_zero, List.set_cons_succ]
    refine RelO.next (k' := 26) rfl (fun W gW hF => ?_) ?_
    focus
      obtain ⟨h24, _⟩ := hF
      have e24 : val 24 = .pointer (some ⟨q, 0, none⟩) := h24 _ (Frm.refl _ W)
      try simp only [e24]
      try simp only [tupAt]
      refine OpOK.val (u := .pointer (some ⟨q, 0, none⟩)) (by rfl) ?_ (fun W' _ => rfl)
      try simp only [e24]
      try simp only [tupAt]
      first | (go_simp; done) | (go_simp; with_reducible rfl) | (go_simp; rfl)
    try simp only [Act.put, List.setIfInBounds_toArray, List.set_cons_zero, List.set_cons_succ]
    refine RelO.next (k' := 27) rfl (fun W gW hF => ?_) ?_
    focus
      obtain ⟨h25, _⟩ := hF
      have e25 : val 25 = .pointer (some ⟨q, 0, none⟩) := h25 _ (Frm.refl _ W)
      try simp only [e25]
      try simp only [tupAt]
      refine OpOK.val (u := .pointer (some ⟨q, 2, none⟩)) (by rfl) ?_ (fun W' _ => rfl)
      try simp only [e25]
      try simp only [tupAt]
      first | (go_simp; done) | (go_simp; with_reducible rfl) | (go_simp; rfl)
    try simp only [Act.put, List.setIfInBounds_toArray, List.set_cons_zero, List.set_cons_succ]
    refine RelO.next (k' := 28) rfl (fun W gW hF => ?_) ?_
    focus
      obtain ⟨h26, _⟩ := hF
      have e26 : val 26 = .pointer (some ⟨q, 2, none⟩) := h26 _ (Frm.refl _ W)
      try simp only [e26]
      try simp only [tupAt]
      have c0 := (HQ.out W (D.trans gW)).cell 2 rfl
      exact OpOK.val (u := .int .i64 (n : Nat)) (by rfl) (by first | (go_simp; done) | (go_simp; with_reducible rfl) | (go_simp; rfl)) (fun W' _ => rfl)
    try simp only [Act.put, List.setIfInBounds_toArray, List.set_cons_zero, List.set_cons_succ]
    refine RelO.next (k' := 29) rfl (fun W gW hF => ?_) ?_
    focus
      obtain ⟨h8, h20, h27, _⟩ := hF
      have e8 : val 8 = .pointer (some ⟨l, 0, none⟩) := h8 _ (Frm.refl _ W)
      have e20 : val 20 = .int .i64 (m : Nat) := h20 _ (Frm.refl _ W)
      have e27 : val 27 = .int .i64 (n : Nat) := h27 _ (Frm.refl _ W)
      try simp only [e27]
      try simp only [e20]
      try simp only [e8]
      try simp only [tupAt]
      refine OpOK.call (by rfl) ?_ ((HRd.out W (D.trans gW)).mono ?_)
      · first | (go_simp; done) | (go_simp; with_reducible rfl) | (go_simp; rfl)
      · rintro e W1 ⟨v, rfl, hn⟩
        exact ⟨_, rfl, hn.frm, fun W2 g2 => ⟨v, rfl, hn.own.keep g2 (fun _ _ h => h), fun g e => Nat.le_trans (HK.out W (D.trans gW)) (hn.new g e)⟩⟩
    try simp only [Act.put, List.setIfInBounds_toArray, List.set_cons_zero, List.set_cons_succ]
    refine RelO.next (k' := 30) rfl (fun W gW hF => ?_) ?_
    focus
      obtain ⟨h28, _⟩ := hF
      have q28 : ∃ v, (val 28) = .tuple #[.int .u32 (p1 : Nat), v, .int .i64 (p3 : Nat)] ∧ OwnS W v gsl ∧ ∀ g, v.ownBlock = some g → K ≤ g := h28 _ (Frm.refl _ W)
      obtain ⟨v, e28, ov, nv⟩ := q28
      try simp only [e28]
      try simp only [tupAt]
      refine OpOK.val (u := (val 28)) (by rfl) ?_ (fun W' _ => rfl)
      try simp only [e28]
      try simp only [tupAt]
      first | (go_simp; done) | (go_simp; with_reducible rfl) | (go_simp; rfl)
    try simp only [Act.put, List.setIfInBounds_toArray, List.set_cons_zero, List.set_cons_succ]
    refine RelO.next (k' := 31) rfl (fun W gW hF => ?_) ?_
    focus
      obtain ⟨h28, h29, _⟩ := hF
      have q28 : ∃ v, (val 28) = .tuple #[.int .u32 (p1 : Nat), v, .int .i64 (p3 : Nat)] ∧ OwnS W v gsl ∧ ∀ g, v.ownBlock = some g → K ≤ g := h28 _ (Frm.refl _ W)
      obtain ⟨v, e28, ov, nv⟩ := q28
      have e29 : val 29 = (val 28) := h29 _ (Frm.refl _ W)
      try simp only [e29]
      try simp only [e28]
      try simp only [tupAt]
      refine OpOK.val (u := tupAt (val 29) 0) (by rfl) ?_ (fun W' _ => rfl)
      try simp only [e29]
      try simp only [e28]
      try simp only [tupAt]
      first | (go_simp; done) | (go_simp; with_reducible rfl) | (go_simp; rfl)
    try simp only [Act.put, List.setIfInBounds_toArray, List.set_cons_zero, List.set_cons_succ]
    refine RelO.next (k' := 32) rfl (fun W gW hF => ?_) ?_
    focus
      obtain ⟨h28, h29, _⟩ := hF
      have q28 : ∃ v, (val 28) = .tuple #[.int .u32 (p1 : Nat), v, .int .i64 (p3 : Nat)] ∧ OwnS W v gsl ∧ ∀ g, v.ownBlock = some g → K ≤ g := h28 _ (Frm.refl _ W)
      obtain ⟨v, e28, ov, nv⟩ := q28
      have e29 : val 29 = (val 28) := h29 _ (Frm.refl _ W)
      try simp only [e29]
      try simp only [e28]
      try simp only [tupAt]
      refine OpOK.val (u := tupAt (val 29) 1) (by rfl) ?_ (fun W' _ => rfl)
      try simp only [e29]
      try simp only [e28]
      try simp only [tupAt]
      first | (go_simp; done) | (go_simp; with_reducible rfl) | (go_simp; rfl)
    try simp only [Act.put, List.setIfInBounds_toArray, List.set_cons_zero, List.set_cons_succ]
    refine RelO.next (k' := 33) rfl (fun W gW hF => ?_) ?_
    focus
      obtain ⟨h28, h29, _⟩ := hF
      have q28 : ∃ v, (val 28) = .tuple #[.int .u32 (p1 : Nat), v, .int .i64 (p3 : Nat)] ∧ OwnS W v gsl ∧ ∀ g, v.ownBlock = some g → K ≤ g := h28 _ (Frm.refl _ W)
      obtain ⟨v, e28, ov, nv⟩ := q28
      have e29 : val 29 = (val 28) := h29 _ (Frm.refl _ W)
      try simp only [e29]
      try simp only [e28]
      try simp only [tupAt]
      refine OpOK.val (u := tupAt (val 29) 2) (by rfl) ?_ (fun W' _ => rfl)
      try simp only [e29]
      try simp only [e28]
      try simp only [tupAt]
      first | (go_simp; done) | (go_simp; with_reducible rfl) | (go_simp; rfl)
    try simp only [Act.put, List.setIfInBounds_toArray, List.set_cons_zero, List.set_cons_succ]
    exact RelO.nil
  intro val W gW hF
  obtain ⟨h0, h1, h2, h3, h4, h5, h6, h7, h8, h9, h10, h11, h12, h13, h14, h15, h16, h17, h18, h19, h20, h21, h22, h23, h24, h25, h26, h27, h28, h29, h30, h31, h32, hT⟩ := hF
  have e0 : val 0 = .pointer (some ⟨hb, 0, none⟩) := h0 _ (Frm.refl _ W)
  have e1 : val 1 = .pointer (some ⟨hb, 0, none⟩) := h1 _ (Frm.refl _ W)
  have e2 : val 2 = .pointer (some ⟨hb, 0, none⟩) := h2 _ (Frm.refl _ W)
  have e3 : val 3 = .pointer (some ⟨hb, 0, none⟩) := h3 _ (Frm.refl _ W)
  have e4 : val 4 = .pointer (some ⟨hb, 0, none⟩) := h4 _ (Frm.refl _ W)
  have e5 : val 5 = .pointer (some ⟨q, 0, none⟩) := h5 _ (Frm.refl _ W)
  have e6 : val 6 = .pointer (some ⟨q, 0, none⟩) := h6 _ (Frm.refl _ W)
  have e7 : val 7 = .pointer (some ⟨q, 1, none⟩) := h7 _ (Frm.refl _ W)
  have e8 : val 8 = .pointer (some ⟨l, 0, none⟩) := h8 _ (Frm.refl _ W)
  have e9 : val 9 = .pointer (some ⟨hb, 0, none⟩) := h9 _ (Frm.refl _ W)
  have e10 : val 10 = .pointer (some ⟨hb, 0, none⟩) := h10 _ (Frm.refl _ W)
  have e11 : val 11 = .pointer (some ⟨hb, 1, none⟩) := h11 _ (Frm.refl _ W)
  have e12 : val 12 = .int .i64 (s : Nat) := h12 _ (Frm.refl _ W)
  have e13 : val 13 = .pointer (some ⟨hb, 0, none⟩) := h13 _ (Frm.refl _ W)
  have e14 : val 14 = .pointer (some ⟨hb, 0, none⟩) := h14 _ (Frm.refl _ W)
  have e15 : val 15 = .pointer (some ⟨hb, 0, none⟩) := h15 _ (Frm.refl _ W)
  have e16 : val 16 = .pointer (some ⟨q, 0, none⟩) := h16 _ (Frm.refl _ W)
  have e17 : val 17 = .pointer (some ⟨q, 0, none⟩) := h17 _ (Frm.refl _ W)
  have e18 : val 18 = .pointer (some ⟨q, 2, none⟩) := h18 _ (Frm.refl _ W)
  have e19 : val 19 = .int .i64 (n : Nat) := h19 _ (Frm.refl _ W)
  have e20 : val 20 = .int .i64 (m : Nat) := h20 _ (Frm.refl _ W)
  have e21 : val 21 = .pointer (some ⟨hb, 0, none⟩) := h21 _ (Frm.refl _ W)
  have e22 : val 22 = .pointer (some ⟨hb, 0, none⟩) := h22 _ (Frm.refl _ W)
  have e23 : val 23 = .pointer (some ⟨hb, 0, none⟩) := h23 _ (Frm.refl _ W)
  have e24 : val 24 = .pointer (some ⟨q, 0, none⟩) := h24 _ (Frm.refl _ W)
  have e25 : val 25 = .pointer (some ⟨q, 0, none⟩) := h25 _ (Frm.refl _ W)
  have e26 : val 26 = .pointer (some ⟨q, 2, none⟩) := h26 _ (Frm.refl _ W)
  have e27 : val 27 = .int .i64 (n : Nat) := h27 _ (Frm.refl _ W)
  have q28 : ∃ v, (val 28) = .tuple #[.int .u32 (p1 : Nat), v, .int .i64 (p3 : Nat)] ∧ OwnS W v gsl ∧ ∀ g, v.ownBlock = some g → K ≤ g := h28 _ (Frm.refl _ W)
  obtain ⟨v, e28, ov, nv⟩ := q28
  have e29 : val 29 = (val 28) := h29 _ (Frm.refl _ W)
  have e30 : val 30 = tupAt (val 29) 0 := h30 _ (Frm.refl _ W)
  have e31 : val 31 = tupAt (val 29) 1 := h31 _ (Frm.refl _ W)
  have e32 : val 32 = tupAt (val 29) 2 := h32 _ (Frm.refl _ W)
  clear hT h0 h1 h2 h3 h4 h5 h6 h7 h8 h9 h10 h11 h12 h13 h14 h15 h16 h17 h18 h19 h20 h21 h22 h23 h24 h25 h26 h27 h28 h29 h30 h31 h32
  simp only [aO, Act.put, List.setIfInBounds_toArray, List.set_cons_zero, List.set_cons_succ, Nat.reduceAdd]
  try simp only [e32]
  try simp only [e31]
  try simp only [e30]
  try simp only [e29]
  try simp only [e28]
  try simp only [e27]
  try simp only [e26]
  try simp only [e25]
  try simp only [e24]
  try simp only [e23]
  try simp only [e22]
  try simp only [e21]
  try simp only [e20]
  try simp only [e19]
  try simp only [e18]
  try simp only [e17]
  try simp only [e16]
  try simp only [e15]
  try simp only [e14]
  try simp only [e13]
  try simp only [e12]
  try simp only [e11]
  try simp only [e10]
  try simp only [e9]
  try simp only [e8]
  try simp only [e7]
  try simp only [e6]
  try simp only [e5]
  try simp only [e4]
  try simp only [e3]
  try simp only [e2]
  try simp only [e1]
  try simp only [e0]
  try simp only [tupAt]
  have g2 := D.trans gW
  obtain ⟨av, cv, rfl, _, _⟩ := (OwnS.reads ov).slice
  have bb := HB.out W g2
  have k2 := bb.cell 2 rfl
  have f2 := bb.free 2
  have k3 := bb.cell 3 rfl
  have f3 := bb.free 3
  have bb2 := (bb.set 2 (.int .u32 (p1 : Nat))).set 3 (.slice av gsl.length cv)
  have gS : Frm (· = hb) w ((W.setCell ⟨hb, 2, none⟩ (.int .u32 (p1 : Nat))).setCell ⟨hb, 3, none⟩ (.slice av gsl.length cv)) := ((g2.mono fun _ _ h => h.elim : Frm (· = hb) w W).setCell (p := ⟨hb, 2, none⟩) (fun _ => rfl) _).setCell (p := ⟨hb, 3, none⟩) (fun _ => rfl) _
  have hne : ∀ g, (Value.slice av gsl.length cv).ownBlock = some g → g ≠ hb := fun g e => by have := nv g e; have := HBL.out; omega
  have gS2 : Frm (· = hb) W ((W.setCell ⟨hb, 2, none⟩ (.int .u32 (p1 : Nat))).setCell ⟨hb, 3, none⟩ (.slice av gsl.length cv)) := ((Frm.refl (· = hb) W).setCell (p := ⟨hb, 2, none⟩) (fun _ => rfl) _).setCell (p := ⟨hb, 3, none⟩) (fun _ => rfl) _
  have oS := ov.keep gS2 (fun g h e => hne g h e)
  have HE := Lib.hid (And.intro bb2 (And.intro oS (And.intro nv gS)))
  clear gW D g2 bb bb2 gS gS2 hne oS ov nv HB HQ HRd HK HW HBL
  refine wpTail.cons rfl rfl (fun K2 hK2 => ?_)
  unfold Oper.wp execOp
  go_simp
  refine hK2 _ _ ?_
  clear hK2 K2
  try simp only [Act.put, List.setIfInBounds_toArray, List.set_cons_zero, List.set_cons_succ]
  refine wpTail.cons rfl rfl (fun K2 hK2 => ?_)
  unfold Oper.wp execOp
  go_simp
  refine hK2 _ _ ?_
  clear hK2 K2
  try simp only [Act.put, List.setIfInBounds_toArray, List.set_cons_zero, List.set_cons_succ]
  refine wpTail.cons rfl rfl (fun K2 hK2 => ?_)
  unfold Oper.wp execOp
  go_simp
  refine hK2 _ _ ?_
  clear hK2 K2
  try simp only [Act.put, List.setIfInBounds_toArray, List.set_cons_zero, List.set_cons_succ]
  refine wpTail.cons rfl rfl (fun K2 hK2 => ?_)
  unfold Oper.wp execOp
  go_simp
  refine hK2 _ _ ?_
  clear hK2 K2
  try simp only [Act.put, List.setIfInBounds_toArray, List.set_cons_zero, List.set_cons_succ]
  refine wpTail.cons rfl rfl (fun K2 hK2 => ?_)
  unfold Oper.wp execOp
  go_simp
  refine hK2 _ _ ?_
  clear hK2 K2
  try simp only [Act.put, List.setIfInBounds_toArray, List.set_cons_zero, List.set_cons_succ]
  refine wpTail.cons rfl rfl (fun K2 hK2 => ?_)
  unfold Oper.wp execOp
  go_simp
  refine hK2 _ _ ?_
  clear hK2 K2
  try simp only [Act.put, List.setIfInBounds_toArray, List.set_cons_zero, List.set_cons_succ]
  refine wpTail.cons rfl rfl (fun K2 hK2 => ?_)
  unfold Oper.wp execOp
  go_simp
  refine hK2 _ _ ?_
  clear hK2 K2
  try simp only [Act.put, List.setIfInBounds_toArray, List.set_cons_zero, List.set_cons_succ]
  refine wpTail.doneN ?_
  refine hK _ _ ?_
  clear hK k2 f2 k3 f3
  go_wp2_with fail
  go_ret
  exact ⟨rfl, _, HE.out.1, HE.out.2.1, HE.out.2.2.1, HE.out.2.2.2⟩
end Go.Proofs.YtddjkbpgaenpgaaGreat

