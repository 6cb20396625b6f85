/- What Open of a log answers. No condition. -/
import Derived.Test.YtddjkbpgaenpgaaGreatWlN
import Derived.BigQuiet
namespace Go.Proofs.YtddjkbpgaenpgaaGreat
open Go.RowKit Go.Shelf

/-- What Open finds: the side, the generation, the groups, the error. -/
def opR (L : LV) (n : Nat) : Nat × Nat × List (List UInt8) × Nat :=
  if (rdR L ((0 * n : Nat) : Int) (n : Nat)).2.2 ≠ 0 then (0, 0, [], (rdR L ((0 * n : Nat) : Int) (n : Nat)).2.2) else
  if (rdR L ((1 * n : Nat) : Int) (n : Nat)).2.2 ≠ 0 then (0, 0, [], (rdR L ((1 * n : Nat) : Int) (n : Nat)).2.2) else
  if (rdR L ((0 * n : Nat) : Int) (n : Nat)).1 < (rdR L ((1 * n : Nat) : Int) (n : Nat)).1 then (1, (rdR L ((1 * n : Nat) : Int) (n : Nat)).1, (rdR L ((1 * n : Nat) : Int) (n : Nat)).2.1, 0) else
  if (rdR L ((0 * n : Nat) : Int) (n : Nat)).1 = 0 then (0, 0, [], 5) else (0, (rdR L ((0 * n : Nat) : Int) (n : Nat)).1, (rdR L ((0 * n : Nat) : Int) (n : Nat)).2.1, 0)
def OpTo (l : Nat) (n : Nat) (p : Nat × Nat × List (List UInt8) × Nat) (w : World) (e : Ending) (w' : World) : Prop :=
  ∃ pv gv, e = .returned (.tuple #[pv, gv, .int .i64 (p.2.2.2 : Nat)]) ∧ Frm (fun _ => False) w w' ∧
    (p.2.2.2 = 0 → ∃ q, pv = .pointer (some ⟨q, 0, none⟩) ∧ w.heap.size ≤ q ∧ Wlk w' q l ⟨n, p.1, p.2.1, false⟩ none ∧ OwnS w' gv p.2.2.1 ∧ ∀ g, gv.ownBlock = some g → q < g) ∧
    (p.2.2.2 ≠ 0 → pv = .pointer none ∧ gv = .slice none 0 0)
def halfV (q s g : Nat) (v : Value) : Array Value := #[.pointer (some ⟨q, 0, none⟩), .int .i64 (s : Nat), .int .u32 (g : Nat), v]
def op12M : List Nat := [1, 2, 4, 12, 28, 60, 64, 192, 448, 960, 2045, 3069, 5117, 9213, 17405, 33789]
def op12R (Q U sd gn : Nat) : List ((Nat → Value) → World → Prop) := [
  fun val _ => val 0 = .pointer (some ⟨Q, 0, none⟩),
  fun val _ => val 1 = .pointer (some ⟨Q, 0, none⟩),
  fun val _ => val 2 = .pointer (some ⟨U, 0, none⟩),
  fun val _ => val 3 = .pointer (some ⟨U, 0, none⟩),
  fun val _ => val 4 = .pointer (some ⟨U, 1, none⟩),
  fun val _ => val 5 = .int .i64 (sd : Nat),
  fun val _ => val 6 = .pointer (some ⟨U, 0, none⟩),
  fun val _ => val 7 = .pointer (some ⟨U, 0, none⟩),
  fun val _ => val 8 = .pointer (some ⟨U, 2, none⟩),
  fun val _ => val 9 = .int .u32 (gn : Nat)]
set_option maxRecDepth 100000 in
set_option maxHeartbeats 16000000 in
theorem wopen_any (l b f x : Nat) (L : LV) (w : World) (h : LnM w l b f x L) (hP : L.cs.length = 0 ∨ ∀ k, L.P k → k < w.heap.size) :
    Calls Tryz.prog 41 #[.pointer (some ⟨l, 0, none⟩)] w (OpTo l (L.D.n / 4) (opR L (L.D.n / 4)) w) := by
  have hmf : ∀ (fn : Fn) (first cap : Array Value) (w : World), (Instr.makeFunc fn first cap).run Tryz.prog w = .ok (.func fn first cap) w := fun _ _ _ _ => rfl
  have hN := h.dev.ok.hi
  have HO := Lib.hid (wover_any l b f x L w h)
  obtain ⟨n, hn⟩ : ∃ n, L.D.n / 4 = n := ⟨_, rfl⟩
  have hn2 : n ≤ 2048 := by omega
  rw [hn] at HO ⊢
  obtain ⟨⟨a1, al_, ac⟩, ha⟩ : ∃ p, rdR L ((0 * n : Nat) : Int) (n : Nat) = p := ⟨_, rfl⟩
  obtain ⟨⟨b1, bl_, bc⟩, hb⟩ : ∃ p, rdR L ((1 * n : Nat) : Int) (n : Nat) = p := ⟨_, rfl⟩
  have hfin : opR L n = if ac ≠ 0 then (0, 0, [], ac) else if bc ≠ 0 then (0, 0, [], bc) else if a1 < b1 then (1, b1, bl_, 0) else if a1 = 0 then (0, 0, [], 5) else (0, a1, al_, 0) := by
    unfold opR
    simp only [ha, hb]
  obtain ⟨fin, hfi⟩ : ∃ fin, opR L n = fin := ⟨_, rfl⟩
  rw [hfi] at hfin ⊢
  unfold OpTo
  have HL := Lib.hid h
  have HAB := Lib.hid (And.intro ha (And.intro hb hn2))
  have HF := Lib.hid hfin
  clear h hN hn ha hb hfin hfi hn2
  go_enter Tryz.func41, Tryz.ntmps41
  go_wp2_with fail
  refine HO.out.mono ?_
  rintro e w1 ⟨rfl, hW, g1, z1⟩
  obtain ⟨w2, hw2⟩ : ∃ w2, (w1.alloc (.cells #[.pointer (some ⟨w.heap.size, 0, none⟩), .int .i64 0, .int .u32 0, .slice none 0 0] 149)).alloc (.cells #[.pointer (some ⟨w.heap.size, 0, none⟩), .int .i64 1, .int .u32 0, .slice none 0 0] 149) = w2 := ⟨_, rfl⟩
  have g2 : Frm (fun _ => False) w1 w2 := by rw [← hw2]; exact ((Frm.refl _ w1).alloc _).alloc _
  have z2 : w2.heap.size = w1.heap.size + 2 := by rw [← hw2]; simp
  have d0 : Blk w2 w1.heap.size 149 (halfV w.heap.size 0 0 (.slice none 0 0)) := by rw [← hw2]; exact (Blk.alloc w1 _ _).old _
  have d1 : Blk w2 (w1.heap.size + 1) 149 (halfV w.heap.size 1 0 (.slice none 0 0)) := by
    have := Blk.alloc (w1.alloc (.cells #[.pointer (some ⟨w.heap.size, 0, none⟩), .int .i64 0, .int .u32 0, .slice none 0 0] 149)) 149 #[.pointer (some ⟨w.heap.size, 0, none⟩), .int .i64 1, .int .u32 0, .slice none 0 0]
    rw [World.size_alloc, hw2] at this
    exact this
  obtain ⟨w3, hw3⟩ : ∃ w3, w2.alloc (.cells #[.func (.func 96) #[.pointer (some ⟨w1.heap.size, 0, none⟩)] #[], .func (.func 96) #[.pointer (some ⟨w1.heap.size + 1, 0, none⟩)] #[]] 65) = w3 := ⟨_, rfl⟩
  have g3 : Frm (fun _ => False) w2 w3 := by rw [← hw3]; exact (Frm.refl _ w2).alloc _
  have z3 : w3.heap.size = w2.heap.size + 1 := by rw [← hw3]; simp
  have d2 : Blk w3 w2.heap.size 65 #[.func (.func 96) #[.pointer (some ⟨w1.heap.size, 0, none⟩)] #[], .func (.func 96) #[.pointer (some ⟨w1.heap.size + 1, 0, none⟩)] #[]] := by rw [← hw3]; exact Blk.alloc w2 _ _
  have d0 := d0.keep g3 (fun h => h)
  have d1 := d1.keep g3 (fun h => h)
  have gw3 : Frm (fun _ => False) w w3 := (g1.trans g2).trans g3
  have hW3 := (hW.keepF g2).keepF g3
  have hL3 := HL.out.keepF gw3
  have hll := HL.out.lt
  have nX : ∀ k, k ≤ w.heap.size → ¬ (k = w1.heap.size ∨ k = w1.heap.size + 1) := fun k hk => by omega
  obtain ⟨ha, hb, hn2⟩ := HAB.out
  have hP5 := perform_any w2.heap.size [.func (.func 96) #[.pointer (some ⟨w1.heap.size, 0, none⟩)] #[], .func (.func 96) #[.pointer (some ⟨w1.heap.size + 1, 0, none⟩)] #[]]
    (fun k W => Frm (fun j => j = w1.heap.size ∨ j = w1.heap.size + 1) w3 W ∧ (k = 0 → Blk W w1.heap.size 149 (halfV w.heap.size 0 0 (.slice none 0 0))) ∧ (k < 2 → Blk W (w1.heap.size + 1) 149 (halfV w.heap.size 1 0 (.slice none 0 0))) ∧
      (0 < k → ac = 0 ∧ ∃ v, Blk W w1.heap.size 149 (halfV w.heap.size 0 a1 v) ∧ OwnS W v al_ ∧ ∀ g, v.ownBlock = some g → w3.heap.size ≤ g) ∧
      (1 < k → bc = 0 ∧ ∃ v, Blk W (w1.heap.size + 1) 149 (halfV w.heap.size 1 b1 v) ∧ OwnS W v bl_ ∧ ∀ g, v.ownBlock = some g → w3.heap.size ≤ g))
    (fun c W => Frm (fun j => j = w1.heap.size ∨ j = w1.heap.size + 1) w3 W ∧ c = fin.2.2.2) w3 (show 2 ≤ 100 by decide)
    ⟨Frm.refl _ _, fun _ => d0, fun _ => d1, fun h => absurd h (by omega), fun h => absurd h (by omega)⟩
    (fun k hk W hW => by
      have c0 := (d2.keep hW.1 (by omega)).cell k (Array.getElem?_eq_getElem (by simpa using hk))
      rw [c0]
      rcases (by simp at hk; omega : k = 0 ∨ k = 1) with rfl | rfl <;> rfl)
    (fun k hk => by
      rcases (by simp at hk; omega : k = 0 ∨ k = 1) with rfl | rfl
      · refine ⟨96, _, #[], _, rfl, .inr ⟨_, rfl, rfl, rfl⟩, fun xs W => by go_simp, fun W hW => ?_⟩
        obtain ⟨gW, q0, q1, _, _⟩ := hW
        have := hread_any w1.heap.size w.heap.size l b f x ⟨n, 0, 0, false⟩ none L 0 0 _ W (q0 rfl) (hW3.keepX gW (nX _ (Nat.le_refl _))) (hL3.keep gW (nX _ (by omega)) (nX _ (by omega)) (nX _ (by omega)) (nX _ (by omega)) (hP.imp id fun u k hk => nX k (by have := u k hk; omega))) (by omega) hn2
        rw [show ((0 : Nat) * WV.n ⟨n, 0, 0, false⟩ : Nat) = 0 * n from rfl, ha] at this
        refine this.mono fun e W2 hq => ?_
        obtain ⟨e1, v, e2, e3, e4, e5⟩ := hq
        have gX : Frm (fun j => j = w1.heap.size ∨ j = w1.heap.size + 1) w3 W2 := gW.trans (e5.mono fun k _ h => .inl h)
        refine ⟨ac, e1, fun hc => ⟨gX, fun h => absurd h (by omega), fun _ => (q1 (by omega)).keep e5 (by omega), fun _ => ⟨hc, v, e2, e3, fun g hg => Nat.le_trans gW.size (e4 g hg)⟩, fun h => absurd h (by omega)⟩, fun hc => ⟨gX, ?_⟩⟩
        rw [HF.out, if_pos hc]
      · refine ⟨96, _, #[], _, rfl, .inr ⟨_, rfl, rfl, rfl⟩, fun xs W => by go_simp, fun W hW => ?_⟩
        obtain ⟨gW, _, q1, q2, _⟩ := hW
        obtain ⟨hac, v0, u1, u2, u3⟩ := q2 (by omega)
        have := hread_any (w1.heap.size + 1) w.heap.size l b f x ⟨n, 0, 0, false⟩ none L 1 0 _ W (q1 (by omega)) (hW3.keepX gW (nX _ (Nat.le_refl _))) (hL3.keep gW (nX _ (by omega)) (nX _ (by omega)) (nX _ (by omega)) (nX _ (by omega)) (hP.imp id fun u k hk => nX k (by have := u k hk; omega))) (by omega) hn2
        rw [show ((1 : Nat) * WV.n ⟨n, 0, 0, false⟩ : Nat) = 1 * n from rfl, hb] at this
        refine this.mono fun e W2 hq => ?_
        obtain ⟨e1, v, e2, e3, e4, e5⟩ := hq
        have gX : Frm (fun j => j = w1.heap.size ∨ j = w1.heap.size + 1) w3 W2 := gW.trans (e5.mono fun k _ h => .inr h)
        refine ⟨bc, e1, fun hc => ⟨gX, fun h => absurd h (by omega), fun h => absurd h (by omega), fun _ => ⟨hac, v0, u1.keep e5 (by omega), u2.keep e5 (fun g hg e => by have := u3 g hg; omega), u3⟩, fun _ => ⟨hc, v, e2, e3, fun g hg => Nat.le_trans gW.size (e4 g hg)⟩⟩, fun hc => ⟨gX, ?_⟩⟩
        rw [HF.out, if_neg (by omega), if_pos hc])
  simp only [List.length_cons, List.length_nil, Nat.reduceAdd] at hP5
  have HP := Lib.hid hP5
  have HK := Lib.hid (And.intro gw3 (And.intro hW3 (And.intro z1 (And.intro z2 z3))))
  clear hP hP5 hW g1 z1 g2 z2 d0 d1 g3 z3 d2 gw3 hW3 hL3 hll nX ha hb hn2
  go_wp2_with fail
  clear hw2 hw3
  with_reducible refine HP.out.mono ?_
  rintro e w4 ⟨c, rfl, hi, he⟩
  by_cases hc : c = 0
  · subst hc
    obtain ⟨gX, _, _, q0, q1⟩ := hi rfl
    obtain ⟨hac, v0, u1, u2, u3⟩ := q0 (by decide)
    obtain ⟨hbc, v1, t1, t2, t3⟩ := q1 (by decide)
    have hfin := HF.out
    rw [if_neg (by omega), if_neg (by omega)] at hfin
    have hfin := Lib.hid hfin
    obtain ⟨gw3, hW3, z1, z2, z3⟩ := HK.out
    have gw4 : Frm (fun _ => False) w w4 := gw3.next gX (fun k hk e => by omega)
    have hW4 := hW3.keepX gX (by omega)
    have k0 : w4.cell? ⟨w1.heap.size, 2, none⟩ = some (.int .u32 (a1 : Nat)) := u1.cell 2 rfl
    have k1 : w4.cell? ⟨w1.heap.size + 1, 2, none⟩ = some (.int .u32 (b1 : Nat)) := t1.cell 2 rfl
    have HU := Lib.hid (And.intro u1 (And.intro u2 u3))
    have HT := Lib.hid (And.intro t1 (And.intro t2 t3))
    have HW4 := Lib.hid (And.intro gw4 hW4)
    clear hi he HP gX q0 q1 hac hbc u1 u2 u3 t1 t2 t3 gw3 hW3 z1 z2 z3 gw4 hW4
    by_cases hlt : a1 < b1
    · have hlti : (a1 : Int) < (b1 : Int) := by omega
      have hb0 : ((b1 : Int) == 0) = false := by rw [beq_eq_false_iff_ne]; omega
      have hff : fin = (1, b1, bl_, 0) := by rw [hfin.out, if_pos hlt]
      have HFF := Lib.hid hff
      clear hlt hff
      go_wp2_with fail
      go_quiet (fail)
      go_upto_region 12 with fail
      rename_i hK
      obtain ⟨w5, hw5⟩ : ∃ w5, w4.drewN nq = w5 := ⟨_, rfl⟩
      have g45 : Frm (fun _ => False) w4 w5 := by rw [← hw5]; exact (Frm.refl _ w4).drewN _
      rw [hw5]
      obtain ⟨Q, hQ⟩ : ∃ Q, w.heap.size = Q := ⟨_, rfl⟩
      obtain ⟨U, hU⟩ : ∃ U, w1.heap.size + 1 = U := ⟨_, rfl⟩
      obtain ⟨sd, hsd⟩ : ∃ sd : Nat, 1 = sd := ⟨_, rfl⟩
      obtain ⟨gn, hgn⟩ : ∃ gn, b1 = gn := ⟨_, rfl⟩
      have HV := Lib.hid (And.intro hQ (And.intro hU (And.intro hsd hgn)))
      have d0 := HT.out.1.keep g45 (fun h => h)
      have o0 := HT.out.2.1.keep g45 (fun _ _ h => h)
      have n0 := HT.out.2.2
      have q0 := HW4.out.2.keepF g45
      have gw5 := HW4.out.1.trans g45
      have d0 : Blk w5 U 149 #[.pointer (some ⟨Q, 0, none⟩), .int .i64 (sd : Nat), .int .u32 (gn : Nat), v1] := by subst hQ hU hsd hgn; exact d0
      rw [hQ] at q0
      rw [hQ, hU]
      try rw [hgn]
      obtain ⟨av, cv, hv, _, _⟩ := (OwnS.reads o0).slice
      have HQU := Lib.hid (show Q < U by rw [← hQ, ← hU]; have := HK.out.2.2.1; omega)
      have HU5 : Hid (∀ W, Frm (fun _ => False) w5 W → Blk W U 149 #[.pointer (some ⟨Q, 0, none⟩), .int .i64 (sd : Nat), .int .u32 (gn : Nat), v1]) := Lib.hid fun W g => d0.keep g (fun h => h)
      have HE5 := Lib.hid (And.intro o0 (And.intro n0 (And.intro q0 gw5)))
      have HV5 := Lib.hid hv
      clear g45 d0 o0 n0 q0 gw5 hv hw5 hQ hU hsd hgn k0 k1
      have D : Frm (fun _ => False) w5 w5.drew := (Frm.refl _ _).drew
      refine wp_region_late 10 6 [1] [[], [], [], [2], [3], [4], [], [6], [7], [8]] op12M (op12R Q U sd gn) (by kernel_rfl) rfl rfl rfl (by kernel_rfl) (by kernel_rfl) (by kernel_rfl) (by kernel_rfl) rfl (by kernel_rfl) (by kernel_rfl) (by kernel_rfl) (by kernel_rfl) (fun val => ?_) ?_
      · try dsimp only
        refine RelO.next (k' := 1) rfl (fun W gW hF => ?_) ?_
        focus
          refine OpOK.val (u := .pointer (some ⟨Q, 0, none⟩)) (by rfl) ?_ (fun W' _ => rfl)
          try simp only [tupAt]
          first | (go_simp; done) | (go_simp; with_reducible rfl) | (go_simp; rfl)
        try simp only [Act.put, List.setIfInBounds_toArray, List.set_cons_zero, List.set_cons_succ]
        refine RelO.next (k' := 2) rfl (fun W gW hF => ?_) ?_
        focus
          refine OpOK.val (u := .pointer (some ⟨Q, 0, none⟩)) (by rfl) ?_ (fun W' _ => rfl)
          try simp only [tupAt]
          first | (go_simp; done) | (go_simp; with_reducible rfl) | (go_simp; rfl)
        try simp only [Act.put, List.setIfInBounds_toArray, List.set_cons_zero, List.set_cons_succ]
        refine RelO.next (k' := 3) rfl (fun W gW hF => ?_) ?_
        focus
          refine OpOK.val (u := .pointer (some ⟨U, 0, none⟩)) (by rfl) ?_ (fun W' _ => rfl)
          try simp only [tupAt]
          first | (go_simp; done) | (go_simp; with_reducible rfl) | (go_simp; rfl)
        try simp only [Act.put, List.setIfInBounds_toArray, List.set_cons_zero, List.set_cons_succ]
        refine RelO.next (k' := 4) rfl (fun W gW hF => ?_) ?_
        focus
          obtain ⟨h2, _⟩ := hF
          have e2 : val 2 = .pointer (some ⟨U, 0, none⟩) := h2 _ (Frm.refl _ W)
          try simp only [e2]
          try simp only [tupAt]
          refine OpOK.val (u := .pointer (some ⟨U, 0, none⟩)) (by rfl) ?_ (fun W' _ => rfl)
          try simp only [e2]
          try simp only [tupAt]
          first | (go_simp; done) | (go_simp; with_reducible rfl) | (go_simp; rfl)
        try simp only [Act.put, List.setIfInBounds_toArray, List.set_cons_zero, List.set_cons_succ]
        refine RelO.next (k' := 5) rfl (fun W gW hF => ?_) ?_
        focus
          obtain ⟨h3, _⟩ := hF
          have e3 : val 3 = .pointer (some ⟨U, 0, none⟩) := h3 _ (Frm.refl _ W)
          try simp only [e3]
          try simp only [tupAt]
          refine OpOK.val (u := .pointer (some ⟨U, 1, none⟩)) (by rfl) ?_ (fun W' _ => rfl)
          try simp only [e3]
          try simp only [tupAt]
          first | (go_simp; done) | (go_simp; with_reducible rfl) | (go_simp; rfl)
        try simp only [Act.put, List.setIfInBounds_toArray, List.set_cons_zero, List.set_cons_succ]
        refine RelO.next (k' := 6) rfl (fun W gW hF => ?_) ?_
        focus
          obtain ⟨h4, _⟩ := hF
          have e4 : val 4 = .pointer (some ⟨U, 1, none⟩) := h4 _ (Frm.refl _ W)
          try simp only [e4]
          try simp only [tupAt]
          have c0 := (HU5.out W (D.trans gW)).cell 1 rfl
          exact OpOK.val (u := .int .i64 (sd : Nat)) (by rfl) (by first | (go_simp; done) | (go_simp; with_reducible rfl) | (go_simp; rfl)) (fun W' _ => rfl)
        try simp only [Act.put, List.setIfInBounds_toArray, List.set_cons_zero, List.set_cons_succ]
        refine RelO.next (k' := 7) rfl (fun W gW hF => ?_) ?_
        focus
          refine OpOK.val (u := .pointer (some ⟨U, 0, none⟩)) (by rfl) ?_ (fun W' _ => rfl)
          try simp only [tupAt]
          first | (go_simp; done) | (go_simp; with_reducible rfl) | (go_simp; rfl)
        try simp only [Act.put, List.setIfInBounds_toArray, List.set_cons_zero, List.set_cons_succ]
        refine RelO.next (k' := 8) rfl (fun W gW hF => ?_) ?_
        focus
          obtain ⟨h6, _⟩ := hF
          have e6 : val 6 = .pointer (some ⟨U, 0, none⟩) := h6 _ (Frm.refl _ W)
          try simp only [e6]
          try simp only [tupAt]
          refine OpOK.val (u := .pointer (some ⟨U, 0, none⟩)) (by rfl) ?_ (fun W' _ => rfl)
          try simp only [e6]
          try simp only [tupAt]
          first | (go_simp; done) | (go_simp; with_reducible rfl) | (go_simp; rfl)
        try simp only [Act.put, List.setIfInBounds_toArray, List.set_cons_zero, List.set_cons_succ]
        refine RelO.next (k' := 9) rfl (fun W gW hF => ?_) ?_
        focus
          obtain ⟨h7, _⟩ := hF
          have e7 : val 7 = .pointer (some ⟨U, 0, none⟩) := h7 _ (Frm.refl _ W)
          try simp only [e7]
          try simp only [tupAt]
          refine OpOK.val (u := .pointer (some ⟨U, 2, none⟩)) (by rfl) ?_ (fun W' _ => rfl)
          try simp only [e7]
          try simp only [tupAt]
          first | (go_simp; done) | (go_simp; with_reducible rfl) | (go_simp; rfl)
        try simp only [Act.put, List.setIfInBounds_toArray, List.set_cons_zero, List.set_cons_succ]
        refine RelO.next (k' := 10) rfl (fun W gW hF => ?_) ?_
        focus
          obtain ⟨h8, _⟩ := hF
          have e8 : val 8 = .pointer (some ⟨U, 2, none⟩) := h8 _ (Frm.refl _ W)
          try simp only [e8]
          try simp only [tupAt]
          have c0 := (HU5.out W (D.trans gW)).cell 2 rfl
          exact OpOK.val (u := .int .u32 (gn : Nat)) (by rfl) (by first | (go_simp; done) | (go_simp; with_reducible rfl) | (go_simp; rfl)) (fun W' _ => rfl)
        try simp only [Act.put, List.setIfInBounds_toArray, List.set_cons_zero, List.set_cons_succ]
        exact RelO.nil
      intro val W12 gW hF
      obtain ⟨h0, h1, h2, h3, h4, h5, h6, h7, h8, h9, hT⟩ := hF
      have e0 : val 0 = .pointer (some ⟨Q, 0, none⟩) := h0 _ (Frm.refl _ W12)
      have e1 : val 1 = .pointer (some ⟨Q, 0, none⟩) := h1 _ (Frm.refl _ W12)
      have e2 : val 2 = .pointer (some ⟨U, 0, none⟩) := h2 _ (Frm.refl _ W12)
      have e3 : val 3 = .pointer (some ⟨U, 0, none⟩) := h3 _ (Frm.refl _ W12)
      have e4 : val 4 = .pointer (some ⟨U, 1, none⟩) := h4 _ (Frm.refl _ W12)
      have e5 : val 5 = .int .i64 (sd : Nat) := h5 _ (Frm.refl _ W12)
      have e6 : val 6 = .pointer (some ⟨U, 0, none⟩) := h6 _ (Frm.refl _ W12)
      have e7 : val 7 = .pointer (some ⟨U, 0, none⟩) := h7 _ (Frm.refl _ W12)
      have e8 : val 8 = .pointer (some ⟨U, 2, none⟩) := h8 _ (Frm.refl _ W12)
      have e9 : val 9 = .int .u32 (gn : Nat) := h9 _ (Frm.refl _ W12)
      clear hT h0 h1 h2 h3 h4 h5 h6 h7 h8 h9
      simp only [aO, Act.put, List.setIfInBounds_toArray, List.set_cons_zero, List.set_cons_succ, Nat.reduceAdd]
      try simp only [e9]
      try simp only [e8]
      try simp only [e7]
      try simp only [e6]
      try simp only [e5]
      try simp only [e4]
      try simp only [e3]
      try simp only [e2]
      try simp only [e1]
      try simp only [e0]
      try simp only [tupAt]
      have g6 := D.trans gW
      obtain ⟨o0, n0, q0, gw5⟩ := HE5.out
      have q6 := Blk.keep q0 g6 (fun h => h)
      have k3 := q6.cell 3 rfl
      have f3 := q6.free 3
      have k4 := q6.cell 4 rfl
      have f4 := q6.free 4
      have q8 := (q6.set 3 (.int .i64 (sd : Nat))).set 4 (.int .u32 (gn : Nat))
      have hlt9 : Q < U := HQU.out
      have gS : Frm (· = Q) W12 ((W12.setCell ⟨Q, 3, none⟩ (.int .i64 (sd : Nat))).setCell ⟨Q, 4, none⟩ (.int .u32 (gn : Nat))) := ((Frm.refl (· = Q) W12).setCell (p := ⟨Q, 3, none⟩) (fun _ => rfl) _).setCell (p := ⟨Q, 4, none⟩) (fun _ => rfl) _
      have u8 : Blk ((W12.setCell ⟨Q, 3, none⟩ (.int .i64 (sd : Nat))).setCell ⟨Q, 4, none⟩ (.int .u32 (gn : Nat))) U 149 #[.pointer (some ⟨Q, 0, none⟩), .int .i64 (sd : Nat), .int .u32 (gn : Nat), v1] := (HU5.out W12 g6).keep gS (by omega)
      have ku3 := u8.cell 3 rfl
      rw [HV5.out] at ku3
      have HE6 := Lib.hid (And.intro q8 (And.intro gS g6))
      clear gW D g6 o0 n0 q0 gw5 q6 q8 hlt9 gS u8
      refine wpTail.cons rfl rfl (fun K2 hK2 => ?_)
      unfold Oper.wp execOp
      go_simp
      refine hK2 _ _ ?_
      clear hK2 K2
      try simp only [Act.put, List.setIfInBounds_toArray, List.set_cons_zero, List.set_cons_succ]
      refine wpTail.cons rfl rfl (fun K2 hK2 => ?_)
      unfold Oper.wp execOp
      go_simp
      refine hK2 _ _ ?_
      clear hK2 K2
      try simp only [Act.put, List.setIfInBounds_toArray, List.set_cons_zero, List.set_cons_succ]
      refine wpTail.cons rfl rfl (fun K2 hK2 => ?_)
      unfold Oper.wp execOp
      go_simp
      refine hK2 _ _ ?_
      clear hK2 K2
      try simp only [Act.put, List.setIfInBounds_toArray, List.set_cons_zero, List.set_cons_succ]
      refine wpTail.cons rfl rfl (fun K2 hK2 => ?_)
      unfold Oper.wp execOp
      go_simp
      refine hK2 _ _ ?_
      clear hK2 K2
      try simp only [Act.put, List.setIfInBounds_toArray, List.set_cons_zero, List.set_cons_succ]
      refine wpTail.cons rfl rfl (fun K2 hK2 => ?_)
      unfold Oper.wp execOp
      go_simp
      refine hK2 _ _ ?_
      clear hK2 K2
      try simp only [Act.put, List.setIfInBounds_toArray, List.set_cons_zero, List.set_cons_succ]
      refine wpTail.cons rfl rfl (fun K2 hK2 => ?_)
      unfold Oper.wp execOp
      go_simp
      refine hK2 _ _ ?_
      clear hK2 K2
      try simp only [Act.put, List.setIfInBounds_toArray, List.set_cons_zero, List.set_cons_succ]
      refine wpTail.doneN ?_
      refine hK _ _ ?_
      clear hK k3 f3 k4 f4
      go_wp2_with fail
      go_quiet (fail)
      go_wp2_with fail
      go_ret3
      obtain ⟨hQ, hU, hsd, hgn⟩ := HV.out
      obtain ⟨o0, n0, q0, gw5⟩ := HE5.out
      obtain ⟨q8, gS, g6⟩ := HE6.out
      have hz := HK.out
      rw [HFF.out]
      have gF := (gw5.trans g6).next gS (fun k hk e => by omega)
      have hgl : ∀ g, (v1).ownBlock = some g → Q < g := fun g hg => by have := n0 g hg; omega
      have o8 := (o0.keep g6 (fun _ _ h => h)).keep gS (fun g hg e => by have := hgl g hg; omega)
      rw [HV5.out] at o8 hgl
      subst hsd hgn
      exact ⟨_, _, rfl, gF.drewN _, fun _ => ⟨Q, rfl, by omega, Blk.keep q8 ((Frm.refl (fun _ => False) _).drewN _) (fun h => h), o8.keep ((Frm.refl (fun _ => False) _).drewN _) (fun _ _ h => h), hgl⟩, fun h => absurd rfl h⟩
    · have hlti : ¬ (a1 : Int) < (b1 : Int) := by omega
      by_cases ha0 : a1 = 0
      · have hb0 : ((a1 : Int) == 0) = true := by rw [beq_iff_eq]; omega
        have hff : fin = (0, 0, [], 5) := by rw [hfin.out, if_neg hlt, if_pos ha0]
        have HFF := Lib.hid hff
        clear hlt hff ha0
        go_wp2_with fail
        go_quiet (fail)
        go_wp2_with fail
        go_ret3
        rw [HFF.out]
        exact ⟨_, _, rfl, HW4.out.1.drewN _, fun h => absurd h (show ¬ (5 : Nat) = 0 by decide), fun _ => ⟨rfl, rfl⟩⟩
      · have hb0 : ((a1 : Int) == 0) = false := by rw [beq_eq_false_iff_ne]; omega
        have hff : fin = (0, a1, al_, 0) := by rw [hfin.out, if_neg hlt, if_neg ha0]
        have HFF := Lib.hid hff
        clear hlt hff ha0
        go_wp2_with fail
        go_quiet (fail)
        go_upto_region 12 with fail
        rename_i hK
        obtain ⟨w5, hw5⟩ : ∃ w5, w4.drewN nq = w5 := ⟨_, rfl⟩
        have g45 : Frm (fun _ => False) w4 w5 := by rw [← hw5]; exact (Frm.refl _ w4).drewN _
        rw [hw5]
        obtain ⟨Q, hQ⟩ : ∃ Q, w.heap.size = Q := ⟨_, rfl⟩
        obtain ⟨U, hU⟩ : ∃ U, w1.heap.size = U := ⟨_, rfl⟩
        obtain ⟨sd, hsd⟩ : ∃ sd : Nat, 0 = sd := ⟨_, rfl⟩
        obtain ⟨gn, hgn⟩ : ∃ gn, a1 = gn := ⟨_, rfl⟩
        have HV := Lib.hid (And.intro hQ (And.intro hU (And.intro hsd hgn)))
        have d0 := HU.out.1.keep g45 (fun h => h)
        have o0 := HU.out.2.1.keep g45 (fun _ _ h => h)
        have n0 := HU.out.2.2
        have q0 := HW4.out.2.keepF g45
        have gw5 := HW4.out.1.trans g45
        have d0 : Blk w5 U 149 #[.pointer (some ⟨Q, 0, none⟩), .int .i64 (sd : Nat), .int .u32 (gn : Nat), v0] := by subst hQ hU hsd hgn; exact d0
        rw [hQ] at q0
        rw [hQ, hU]
        try rw [hgn]
        obtain ⟨av, cv, hv, _, _⟩ := (OwnS.reads o0).slice
        have HQU := Lib.hid (show Q < U by rw [← hQ, ← hU]; have := HK.out.2.2.1; omega)
        have HU5 : Hid (∀ W, Frm (fun _ => False) w5 W → Blk W U 149 #[.pointer (some ⟨Q, 0, none⟩), .int .i64 (sd : Nat), .int .u32 (gn : Nat), v0]) := Lib.hid fun W g => d0.keep g (fun h => h)
        have HE5 := Lib.hid (And.intro o0 (And.intro n0 (And.intro q0 gw5)))
        have HV5 := Lib.hid hv
        clear g45 d0 o0 n0 q0 gw5 hv hw5 hQ hU hsd hgn k0 k1
        have D : Frm (fun _ => False) w5 w5.drew := (Frm.refl _ _).drew
        refine wp_region_late 10 6 [1] [[], [], [], [2], [3], [4], [], [6], [7], [8]] op12M (op12R Q U sd gn) (by kernel_rfl) rfl rfl rfl (by kernel_rfl) (by kernel_rfl) (by kernel_rfl) (by kernel_rfl) rfl (by kernel_rfl) (by kernel_rfl) (by kernel_rfl) (by kernel_rfl) (fun val => ?_) ?_
        · try dsimp only
          refine RelO.next (k' := 1) rfl (fun W gW hF => ?_) ?_
          focus
            refine OpOK.val (u := .pointer (some ⟨Q, 0, none⟩)) (by rfl) ?_ (fun W' _ => rfl)
            try simp only [tupAt]
            first | (go_simp; done) | (go_simp; with_reducible rfl) | (go_simp; rfl)
          try simp only [Act.put, List.setIfInBounds_toArray, List.set_cons_zero, List.set_cons_succ]
          refine RelO.next (k' := 2) rfl (fun W gW hF => ?_) ?_
          focus
            refine OpOK.val (u := .pointer (some ⟨Q, 0, none⟩)) (by rfl) ?_ (fun W' _ => rfl)
            try simp only [tupAt]
            first | (go_simp; done) | (go_simp; with_reducible rfl) | (go_simp; rfl)
          try simp only [Act.put, List.setIfInBounds_toArray, List.set_cons_zero, List.set_cons_succ]
          refine RelO.next (k' := 3) rfl (fun W gW hF => ?_) ?_
          focus
            refine OpOK.val (u := .pointer (some ⟨U, 0, none⟩)) (by rfl) ?_ (fun W' _ => rfl)
            try simp only [tupAt]
            first | (go_simp; done) | (go_simp; with_reducible rfl) | (go_simp; rfl)
          try simp only [Act.put, List.setIfInBounds_toArray, List.set_cons_zero, List.set_cons_succ]
          refine RelO.next (k' := 4) rfl (fun W gW hF => ?_) ?_
          focus
            obtain ⟨h2, _⟩ := hF
            have e2 : val 2 = .pointer (some ⟨U, 0, none⟩) := h2 _ (Frm.refl _ W)
            try simp only [e2]
            try simp only [tupAt]
            refine OpOK.val (u := .pointer (some ⟨U, 0, none⟩)) (by rfl) ?_ (fun W' _ => rfl)
            try simp only [e2]
            try simp only [tupAt]
            first | (go_simp; done) | (go_simp; with_reducible rfl) | (go_simp; rfl)
          try simp only [Act.put, List.setIfInBounds_toArray, List.set_cons_zero, List.set_cons_succ]
          refine RelO.next (k' := 5) rfl (fun W gW hF => ?_) ?_
          focus
            obtain ⟨h3, _⟩ := hF
            have e3 : val 3 = .pointer (some ⟨U, 0, none⟩) := h3 _ (Frm.refl _ W)
            try simp only [e3]
            try simp only [tupAt]
            refine OpOK.val (u := .pointer (some ⟨U, 1, none⟩)) (by rfl) ?_ (fun W' _ => rfl)
            try simp only [e3]
            try simp only [tupAt]
            first | (go_simp; done) | (go_simp; with_reducible rfl) | (go_simp; rfl)
          try simp only [Act.put, List.setIfInBounds_toArray, List.set_cons_zero, List.set_cons_succ]
          refine RelO.next (k' := 6) rfl (fun W gW hF => ?_) ?_
          focus
            obtain ⟨h4, _⟩ := hF
            have e4 : val 4 = .pointer (some ⟨U, 1, none⟩) := h4 _ (Frm.refl _ W)
            try simp only [e4]
            try simp only [tupAt]
            have c0 := (HU5.out W (D.trans gW)).cell 1 rfl
            exact OpOK.val (u := .int .i64 (sd : Nat)) (by rfl) (by first | (go_simp; done) | (go_simp; with_reducible rfl) | (go_simp; rfl)) (fun W' _ => rfl)
          try simp only [Act.put, List.setIfInBounds_toArray, List.set_cons_zero, List.set_cons_succ]
          refine RelO.next (k' := 7) rfl (fun W gW hF => ?_) ?_
          focus
            refine OpOK.val (u := .pointer (some ⟨U, 0, none⟩)) (by rfl) ?_ (fun W' _ => rfl)
            try simp only [tupAt]
            first | (go_simp; done) | (go_simp; with_reducible rfl) | (go_simp; rfl)
          try simp only [Act.put, List.setIfInBounds_toArray, List.set_cons_zero, List.set_cons_succ]
          refine RelO.next (k' := 8) rfl (fun W gW hF => ?_) ?_
          focus
            obtain ⟨h6, _⟩ := hF
            have e6 : val 6 = .pointer (some ⟨U, 0, none⟩) := h6 _ (Frm.refl _ W)
            try simp only [e6]
            try simp only [tupAt]
            refine OpOK.val (u := .pointer (some ⟨U, 0, none⟩)) (by rfl) ?_ (fun W' _ => rfl)
            try simp only [e6]
            try simp only [tupAt]
            first | (go_simp; done) | (go_simp; with_reducible rfl) | (go_simp; rfl)
          try simp only [Act.put, List.setIfInBounds_toArray, List.set_cons_zero, List.set_cons_succ]
          refine RelO.next (k' := 9) rfl (fun W gW hF => ?_) ?_
          focus
            obtain ⟨h7, _⟩ := hF
            have e7 : val 7 = .pointer (some ⟨U, 0, none⟩) := h7 _ (Frm.refl _ W)
            try simp only [e7]
            try simp only [tupAt]
            refine OpOK.val (u := .pointer (some ⟨U, 2, none⟩)) (by rfl) ?_ (fun W' _ => rfl)
            try simp only [e7]
            try simp only [tupAt]
            first | (go_simp; done) | (go_simp; with_reducible rfl) | (go_simp; rfl)
          try simp only [Act.put, List.setIfInBounds_toArray, List.set_cons_zero, List.set_cons_succ]
          refine RelO.next (k' := 10) rfl (fun W gW hF => ?_) ?_
          focus
            obtain ⟨h8, _⟩ := hF
            have e8 : val 8 = .pointer (some ⟨U, 2, none⟩) := h8 _ (Frm.refl _ W)
            try simp only [e8]
            try simp only [tupAt]
            have c0 := (HU5.out W (D.trans gW)).cell 2 rfl
            exact OpOK.val (u := .int .u32 (gn : Nat)) (by rfl) (by first | (go_simp; done) | (go_simp; with_reducible rfl) | (go_simp; rfl)) (fun W' _ => rfl)
          try simp only [Act.put, List.setIfInBounds_toArray, List.set_cons_zero, List.set_cons_succ]
          exact RelO.nil
        intro val W12 gW hF
        obtain ⟨h0, h1, h2, h3, h4, h5, h6, h7, h8, h9, hT⟩ := hF
        have e0 : val 0 = .pointer (some ⟨Q, 0, none⟩) := h0 _ (Frm.refl _ W12)
        have e1 : val 1 = .pointer (some ⟨Q, 0, none⟩) := h1 _ (Frm.refl _ W12)
        have e2 : val 2 = .pointer (some ⟨U, 0, none⟩) := h2 _ (Frm.refl _ W12)
        have e3 : val 3 = .pointer (some ⟨U, 0, none⟩) := h3 _ (Frm.refl _ W12)
        have e4 : val 4 = .pointer (some ⟨U, 1, none⟩) := h4 _ (Frm.refl _ W12)
        have e5 : val 5 = .int .i64 (sd : Nat) := h5 _ (Frm.refl _ W12)
        have e6 : val 6 = .pointer (some ⟨U, 0, none⟩) := h6 _ (Frm.refl _ W12)
        have e7 : val 7 = .pointer (some ⟨U, 0, none⟩) := h7 _ (Frm.refl _ W12)
        have e8 : val 8 = .pointer (some ⟨U, 2, none⟩) := h8 _ (Frm.refl _ W12)
        have e9 : val 9 = .int .u32 (gn : Nat) := h9 _ (Frm.refl _ W12)
        clear hT h0 h1 h2 h3 h4 h5 h6 h7 h8 h9
        simp only [aO, Act.put, List.setIfInBounds_toArray, List.set_cons_zero, List.set_cons_succ, Nat.reduceAdd]
        try simp only [e9]
        try simp only [e8]
        try simp only [e7]
        try simp only [e6]
        try simp only [e5]
        try simp only [e4]
        try simp only [e3]
        try simp only [e2]
        try simp only [e1]
        try simp only [e0]
        try simp only [tupAt]
        have g6 := D.trans gW
        obtain ⟨o0, n0, q0, gw5⟩ := HE5.out
        have q6 := Blk.keep q0 g6 (fun h => h)
        have k3 := q6.cell 3 rfl
        have f3 := q6.free 3
        have k4 := q6.cell 4 rfl
        have f4 := q6.free 4
        have q8 := (q6.set 3 (.int .i64 (sd : Nat))).set 4 (.int .u32 (gn : Nat))
        have hlt9 : Q < U := HQU.out
        have gS : Frm (· = Q) W12 ((W12.setCell ⟨Q, 3, none⟩ (.int .i64 (sd : Nat))).setCell ⟨Q, 4, none⟩ (.int .u32 (gn : Nat))) := ((Frm.refl (· = Q) W12).setCell (p := ⟨Q, 3, none⟩) (fun _ => rfl) _).setCell (p := ⟨Q, 4, none⟩) (fun _ => rfl) _
        have u8 : Blk ((W12.setCell ⟨Q, 3, none⟩ (.int .i64 (sd : Nat))).setCell ⟨Q, 4, none⟩ (.int .u32 (gn : Nat))) U 149 #[.pointer (some ⟨Q, 0, none⟩), .int .i64 (sd : Nat), .int .u32 (gn : Nat), v0] := (HU5.out W12 g6).keep gS (by omega)
        have ku3 := u8.cell 3 rfl
        rw [HV5.out] at ku3
        have HE6 := Lib.hid (And.intro q8 (And.intro gS g6))
        clear gW D g6 o0 n0 q0 gw5 q6 q8 hlt9 gS u8
        refine wpTail.cons rfl rfl (fun K2 hK2 => ?_)
        unfold Oper.wp execOp
        go_simp
        refine hK2 _ _ ?_
        clear hK2 K2
        try simp only [Act.put, List.setIfInBounds_toArray, List.set_cons_zero, List.set_cons_succ]
        refine wpTail.cons rfl rfl (fun K2 hK2 => ?_)
        unfold Oper.wp execOp
        go_simp
        refine hK2 _ _ ?_
        clear hK2 K2
        try simp only [Act.put, List.setIfInBounds_toArray, List.set_cons_zero, List.set_cons_succ]
        refine wpTail.cons rfl rfl (fun K2 hK2 => ?_)
        unfold Oper.wp execOp
        go_simp
        refine hK2 _ _ ?_
        clear hK2 K2
        try simp only [Act.put, List.setIfInBounds_toArray, List.set_cons_zero, List.set_cons_succ]
        refine wpTail.cons rfl rfl (fun K2 hK2 => ?_)
        unfold Oper.wp execOp
        go_simp
        refine hK2 _ _ ?_
        clear hK2 K2
        try simp only [Act.put, List.setIfInBounds_toArray, List.set_cons_zero, List.set_cons_succ]
        refine wpTail.cons rfl rfl (fun K2 hK2 => ?_)
        unfold Oper.wp execOp
        go_simp
        refine hK2 _ _ ?_
        clear hK2 K2
        try simp only [Act.put, List.setIfInBounds_toArray, List.set_cons_zero, List.set_cons_succ]
        refine wpTail.cons rfl rfl (fun K2 hK2 => ?_)
        unfold Oper.wp execOp
        go_simp
        refine hK2 _ _ ?_
        clear hK2 K2
        try simp only [Act.put, List.setIfInBounds_toArray, List.set_cons_zero, List.set_cons_succ]
        refine wpTail.doneN ?_
        refine hK _ _ ?_
        clear hK k3 f3 k4 f4
        go_wp2_with fail
        go_quiet (fail)
        go_wp2_with fail
        go_ret3
        obtain ⟨hQ, hU, hsd, hgn⟩ := HV.out
        obtain ⟨o0, n0, q0, gw5⟩ := HE5.out
        obtain ⟨q8, gS, g6⟩ := HE6.out
        have hz := HK.out
        rw [HFF.out]
        have gF := (gw5.trans g6).next gS (fun k hk e => by omega)
        have hgl : ∀ g, (v0).ownBlock = some g → Q < g := fun g hg => by have := n0 g hg; omega
        have o8 := (o0.keep g6 (fun _ _ h => h)).keep gS (fun g hg e => by have := hgl g hg; omega)
        rw [HV5.out] at o8 hgl
        subst hsd hgn
        exact ⟨_, _, rfl, gF.drewN _, fun _ => ⟨Q, rfl, by omega, Blk.keep q8 ((Frm.refl (fun _ => False) _).drewN _) (fun h => h), o8.keep ((Frm.refl (fun _ => False) _).drewN _) (fun _ _ h => h), hgl⟩, fun h => absurd rfl h⟩
  · have hq : ((c : Int) != 0) = true := by simp; omega
    obtain ⟨gX, hcf⟩ := he hc
    have H4 := Lib.hid (And.intro gX (And.intro hcf hc))
    clear hi he HP gX hcf hc
    go_wp2_with fail
    go_ret3
    obtain ⟨gX, rfl, hc⟩ := H4.out
    obtain ⟨gw3, hW3, z1, z2, z3⟩ := HK.out
    exact ⟨_, _, rfl, gw3.next gX (fun k hk e => by omega), fun h => absurd h hc, fun _ => ⟨rfl, rfl⟩⟩
end Go.Proofs.YtddjkbpgaenpgaaGreat

