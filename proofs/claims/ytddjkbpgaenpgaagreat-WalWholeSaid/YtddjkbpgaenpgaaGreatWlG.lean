/- What anew answers and leaves. No condition. -/
import Derived.Test.YtddjkbpgaenpgaaGreatWlF
namespace Go.Proofs.YtddjkbpgaenpgaaGreat
open Go.RowKit Go.Shelf

/-- What anew leaves. -/
def AnTo (q l b f x : Nat) (V : WV) (rp : Option Addr) (s gen : Nat) (fin : RV × LV × Nat) (w : World) (e : Ending) (w' : World) : Prop :=
  e = .returned (.int .i64 (fin.2.2 : Nat)) ∧ Frm (WlX q l f x) w w' ∧
    (fin.2.2 = 0 → ∃ g, w.heap.size ≤ g ∧ WlM w' q l b f x { V with side := s, gen := gen } (some ⟨g, 0, none⟩) fin.2.1 ∧ RgM w' g l b f x fin.1 fin.2.1) ∧
    (fin.2.2 ≠ 0 → WlM w' q l b f x V rp fin.2.1)
theorem anR_eq {L L0 L1 L2 L3 : LV} {R1 R2 R3 : RV} {A n gen c0 c1 c2 c3 : Nat} {t : List UInt8} (h0 : fmtR L (A : Int) (n : Int) = (L0, c0)) (h1 : apR ⟨A, n, 0, false⟩ L0 t = (R1, L1, c1)) (h2 : flR R1 L1 = (R2, L2, c2)) (h3 : slR R2 L2 gen = (R3, L3, c3)) :
    anR L A n gen t = if c0 ≠ 0 then (⟨A, n, 0, false⟩, L0, c0) else if c1 ≠ 0 then (R1, L1, c1) else if c2 ≠ 0 then (R2, L2, c2) else (R3, L3, c3) := by
  unfold anR
  simp only [h0, h1, h2, h3]
theorem RgX.notA {g l f x k : Nat} (h0 : k ≠ g) (h1 : k ≠ l) (h2 : k ≠ f) (h3 : k ≠ x) : ¬ RgX g l f x k := by
  rintro (h | h)
  · exact h0 h
  · exact notX h1 h2 h3 h
set_option maxRecDepth 100000 in
set_option maxHeartbeats 16000000 in
theorem anew_any (q l b f x : Nat) (V : WV) (rp : Option Addr) (L : LV) (s gen : Nat) (t : List UInt8) (w : World) (h : WlM w q l b f x V rp L) (hs : s ≤ 1) (hg : gen < 4294967296) (ht : t.length ≤ 1000000) (ha : L.acts ≤ 800000) (hP : L.cs.length = 0 ∨ ∀ k, L.P k → k < w.heap.size) :
    Calls Tryz.prog 95 #[.pointer (some ⟨q, 0, none⟩), .int .i64 (s : Nat), .int .u32 (gen : Nat), .string (bs t)] w (AnTo q l b f x V rp s gen (anR L (s * V.n) V.n gen t) w) := by
  have hmf : ∀ (fn : Fn) (first cap : Array Value) (w : World), (Instr.makeFunc fn first cap).run Tryz.prog w = .ok (.func fn first cap) w := fun _ _ _ _ => rfl
  have hok := h.ok
  have hn := hok.n2
  have hN : V.n ≤ 1024 := by have := hok.inn; have := hok.N2; omega
  obtain ⟨⟨L0, c0⟩, h0⟩ : ∃ p, fmtR L ((s * V.n : Nat) : Int) (V.n : Int) = p := ⟨_, rfl⟩
  obtain ⟨⟨R1, L1, c1⟩, h1⟩ : ∃ p, apR ⟨s * V.n, V.n, 0, false⟩ L0 t = p := ⟨_, rfl⟩
  obtain ⟨⟨R2, L2, c2⟩, h2⟩ : ∃ p, flR R1 L1 = p := ⟨_, rfl⟩
  obtain ⟨⟨R3, L3, c3⟩, h3⟩ : ∃ p, slR R2 L2 gen = p := ⟨_, rfl⟩
  have hfin := anR_eq h0 h1 h2 h3
  have l0 := ls_fmt L (s * V.n) V.n
  have l1 := (ls_ap ⟨s * V.n, V.n, 0, false⟩ L0 t).1
  have l2 := (ls_fl R1 L1).1
  have l3 := (ls_sl R2 L2 gen).1
  rw [h0] at l0
  rw [h1] at l1
  rw [h2] at l2
  rw [h3] at l3
  have l0 : Ls L L0 (V.n + 1) := l0
  have l1 : Ls L0 L1 (V.n + 1) := l1
  have l2 : Ls L1 L2 1 := l2
  have l3 : Ls L2 L3 2 := l3
  obtain ⟨fin, hfi⟩ : ∃ fin, anR L (s * V.n) V.n gen t = fin := ⟨_, rfl⟩
  rw [hfi] at hfin ⊢
  unfold AnTo
  -- the two variables
  obtain ⟨w1, hw1⟩ : ∃ w1, (w.alloc (.cells #[.int .u32 (gen : Nat)] 44)).alloc (.cells #[.string (bs t)] 9) = w1 := ⟨_, rfl⟩
  have b0 : Blk w1 w.heap.size 44 #[.int .u32 (gen : Nat)] := by rw [← hw1]; exact (Blk.alloc w _ _).old _
  have b1 : Blk w1 (w.heap.size + 1) 9 #[.string (bs t)] := by
    have := Blk.alloc (w.alloc (.cells #[.int .u32 (gen : Nat)] 44)) 9 #[.string (bs t)]
    rw [World.size_alloc, hw1] at this
    exact this
  have g1 : Frm (fun _ => False) w w1 := by rw [← hw1]; exact ((Frm.refl _ w).alloc _).alloc _
  have z1 : w1.heap.size = w.heap.size + 2 := by rw [← hw1]; simp
  have hP1 : L.cs.length = 0 ∨ ∀ k, L.P k → k < w1.heap.size := hP.imp id fun u k hk => by have := u k hk; omega
  have HF := wformat_any q l b f x V rp L s w1 (h.blk.keepF g1) (h.ln.keepF g1) hs (by omega) (by omega) hP1
  unfold FmtTo at HF
  rw [h0] at HF
  have HF := Lib.hid HF
  have HW1 := Lib.hid (And.intro b0 (And.intro b1 (And.intro g1 z1)))
  have HH := Lib.hid h
  have HLs := Lib.hid (And.intro l0 (And.intro l1 (And.intro l2 l3)))
  have HEq := Lib.hid (And.intro h1 (And.intro h2 h3))
  have HPP := Lib.hid hP
  have HFin := Lib.hid hfin
  have HNN := Lib.hid (And.intro hn hN)
  obtain ⟨B, hB⟩ : ∃ B, w.heap.size = B := ⟨_, rfl⟩
  have HB := Lib.hid hB
  clear h hok hn hN h0 h1 h2 h3 hfin l0 l1 l2 l3 hfi b0 b1 g1 z1 hP hP1 hB
  go_enter Tryz.func95, Tryz.ntmps95
  go_wp2_with fail
  clear hw1
  refine HF.out.mono ?_
  rintro e w3 ⟨v, rfl, hl3, g3, hz, hnz⟩
  have hl3 : LnM w3 l b f x L0 := hl3
  have hz : c0 = 0 → ∃ g, v = .pointer (some ⟨g, 0, none⟩) ∧ w1.heap.size ≤ g ∧ RgM w3 g l b f x ⟨s * V.n, V.n, 0, false⟩ L0 := fun e => hz e
  have hnz : c0 ≠ 0 → v = .pointer none := fun e => hnz e
  by_cases hc : c0 = 0
  · subst hc
    obtain ⟨g, rfl, hg3, hR3⟩ := hz rfl
    have HR3 := Lib.hid (And.intro hR3 (And.intro hg3 g3))
    clear hz hnz hl3 hg3 hR3 g3 HF
    have hB2 := HB.out
    have hlt3 := HR3.out.1.lt
    obtain ⟨b0, b1, g1, z1⟩ := HW1.out
    -- the region's variable, and the steps
    obtain ⟨w4, hw4⟩ : ∃ w4, w3.alloc (.cells #[.pointer (some ⟨g, 0, none⟩)] 37) = w4 := ⟨_, rfl⟩
    have gB4 : Frm (fun _ => False) w3 w4 := by rw [← hw4]; exact (Frm.refl _ w3).alloc _
    have b9 : Blk w4 w3.heap.size 37 #[.pointer (some ⟨g, 0, none⟩)] := by rw [← hw4]; exact Blk.alloc w3 _ _
    have z4 : w4.heap.size = w3.heap.size + 1 := by rw [← hw4]; simp
    have c9 := b9.cell 0 rfl
    obtain ⟨w5, hw5⟩ : ∃ w5, w4.alloc (.cells #[.func (.func 145) #[] #[.pointer (some ⟨w3.heap.size, 0, none⟩), .pointer (some ⟨w.heap.size + 1, 0, none⟩)], .func (.func 34) #[.pointer (some ⟨g, 0, none⟩)] #[], .func (.func 146) #[] #[.pointer (some ⟨w3.heap.size, 0, none⟩), .pointer (some ⟨w.heap.size, 0, none⟩)]] 65) = w5 := ⟨_, rfl⟩
    have gB5 : Frm (fun _ => False) w4 w5 := by rw [← hw5]; exact (Frm.refl _ w4).alloc _
    have b10 := Blk.alloc w4 65 #[.func (.func 145) #[] #[.pointer (some ⟨w3.heap.size, 0, none⟩), .pointer (some ⟨w.heap.size + 1, 0, none⟩)], .func (.func 34) #[.pointer (some ⟨g, 0, none⟩)] #[], .func (.func 146) #[] #[.pointer (some ⟨w3.heap.size, 0, none⟩), .pointer (some ⟨w.heap.size, 0, none⟩)]]
    rw [hw5] at b10
    have hql := HH.out.qlt
    have hll := HH.out.ln.lt
    have gAll : Frm (LnX l f x) w w5 := ((((g1.mono fun _ _ h => h.elim).trans HR3.out.2.2).trans (gB4.mono fun _ _ h => h.elim)).trans (gB5.mono fun _ _ h => h.elim))
    have n0 : ¬ RgX g l f x w.heap.size := RgX.notA (by have := HR3.out.2.1; omega) (by omega) (by omega) (by omega)
    have n1 : ¬ RgX g l f x (w.heap.size + 1) := RgX.notA (by have := HR3.out.2.1; omega) (by omega) (by omega) (by omega)
    have n9 : ¬ RgX g l f x w3.heap.size := RgX.notA (by omega) (by omega) (by omega) (by omega)
    have n10 : ¬ RgX g l f x w4.heap.size := RgX.notA (by omega) (by omega) (by omega) (by omega)
    have nq : ¬ RgX g l f x q := RgX.notA (by have := HR3.out.2.1; omega) HH.out.ne.1 HH.out.ne.2.2.1 HH.out.ne.2.2.2
    have b0 : Blk w5 w.heap.size 44 #[.int .u32 (gen : Nat)] := ((b0.keep HR3.out.2.2 (notX (by omega) (by omega) (by omega))).keep gB4 (fun h => h)).keep gB5 (fun h => h)
    have b1 : Blk w5 (w.heap.size + 1) 9 #[.string (bs t)] := ((b1.keep HR3.out.2.2 (notX (by omega) (by omega) (by omega))).keep gB4 (fun h => h)).keep gB5 (fun h => h)
    have b9 := b9.keep gB5 (fun h => h)
    have hR5 := (HR3.out.1.keepF gB4).keepF gB5
    have hP5 : L0.cs.length = 0 ∨ ∀ j, L0.P j → j < w5.heap.size := by
      rw [HLs.out.1.cs, HLs.out.1.P]
      exact HPP.out.imp id fun u k hk => by have := u k hk; have := gAll.size; omega
    have HBk := Lib.hid (And.intro b0 (And.intro b1 (And.intro b9 b10)))
    have HNk := Lib.hid (And.intro n0 (And.intro n1 (And.intro n9 (And.intro n10 nq))))
    have HR5 := Lib.hid (And.intro hR5 (And.intro gAll (And.intro gB4 gB5)))
    obtain ⟨l0, l1, l2, l3⟩ := HLs.out
    obtain ⟨h1, h2, h3⟩ := HEq.out
    have hfin := HFin.out
    rw [if_neg (by decide)] at hfin
    have hPW : ∀ {k : Nat} {L' : LV} {W : World}, Ls L0 L' k → Frm (RgX g l f x) w5 W → L'.cs.length = 0 ∨ ∀ j, L'.P j → j < W.heap.size := fun {k L' W} hL hW => by
      rw [hL.cs, hL.P]
      exact hP5.imp id fun u j hj => by have := u j hj; have := hW.size; omega
    have HP := perform_any w4.heap.size [.func (.func 145) #[] #[.pointer (some ⟨w3.heap.size, 0, none⟩), .pointer (some ⟨w.heap.size + 1, 0, none⟩)], .func (.func 34) #[.pointer (some ⟨g, 0, none⟩)] #[], .func (.func 146) #[] #[.pointer (some ⟨w3.heap.size, 0, none⟩), .pointer (some ⟨w.heap.size, 0, none⟩)]]
      (fun k W => Frm (RgX g l f x) w5 W ∧ (0 < k → c1 = 0) ∧ (1 < k → c2 = 0) ∧ (2 < k → c3 = 0) ∧ RgM W g l b f x (if k = 0 then ⟨s * V.n, V.n, 0, false⟩ else if k = 1 then R1 else if k = 2 then R2 else R3) (if k = 0 then L0 else if k = 1 then L1 else if k = 2 then L2 else L3))
      (fun c W => Frm (RgX g l f x) w5 W ∧ c = fin.2.2 ∧ LnM W l b f x fin.2.1 ∧ Ls L0 fin.2.1 2000) w5 (show 3 ≤ 100 by decide)
      ⟨Frm.refl _ _, fun h => absurd h (Nat.lt_irrefl _), fun h => absurd h (by omega), fun h => absurd h (by omega), hR5⟩
      (fun k hk W hW => by
        have c0 := (b10.keep hW.1 n10).cell k (Array.getElem?_eq_getElem (by simpa using hk))
        rw [c0]
        rcases (by simp at hk; omega : k = 0 ∨ k = 1 ∨ k = 2) with rfl | rfl | rfl <;> rfl)
      (fun k hk => by
        have hN := HNN.out.2
        rcases (by simp at hk; omega : k = 0 ∨ k = 1 ∨ k = 2) with rfl | rfl | rfl
        · refine ⟨145, #[], _, _, rfl, .inl ⟨rfl, rfl⟩, fun xs W => by go_simp, fun W hW => ?_⟩
          obtain ⟨gW, _, _, _, hR⟩ := hW
          have := anew1_any w3.heap.size (w.heap.size + 1) g l b f x _ _ t W hR ((b9.keep gW n9).cell 0 rfl) ((b1.keep gW n1).cell 0 rfl) (by have := l0.acts; show L0.acts ≤ _; omega) ht (hPW (Ls.refl L0 0) gW)
          refine this.mono fun e W' hq => ?_
          obtain ⟨e1, e2, e3⟩ := hq
          have e1 : e = .returned (.int .i64 ((apR ⟨s * V.n, V.n, 0, false⟩ L0 t).2.2 : Nat)) := e1
          have e2 : RgM W' g l b f x (apR ⟨s * V.n, V.n, 0, false⟩ L0 t).1 (apR ⟨s * V.n, V.n, 0, false⟩ L0 t).2.1 := e2
          rw [h1] at e1 e2
          refine ⟨c1, e1, fun hc => ⟨gW.trans e3, fun _ => hc, fun h => absurd h (by omega), fun h => absurd h (by omega), e2⟩, fun hc => ?_⟩
          rw [if_pos hc] at hfin
          rw [hfin]
          exact ⟨gW.trans e3, rfl, e2.ln, l1.mono (by omega)⟩
        · refine ⟨34, _, #[], _, rfl, .inr ⟨_, rfl, rfl, rfl⟩, fun xs W => by go_simp, fun W hW => ?_⟩
          obtain ⟨gW, q1, _, _, hR⟩ := hW
          have hR : RgM W g l b f x R1 L1 := hR
          have := rflush13_any g l b f x R1 L1 W hR (by have := l0.acts; have := l1.acts; omega)
          refine this.mono fun e W' hq => ?_
          obtain ⟨e1, e2, e3⟩ := hq
          rw [h2] at e1 e2
          refine ⟨c2, e1, fun hc => ⟨gW.trans e3, fun _ => q1 (by omega), fun _ => hc, fun h => absurd h (by omega), e2⟩, fun hc => ?_⟩
          rw [if_neg (by have := q1 (by omega); omega), if_pos hc] at hfin
          rw [hfin]
          exact ⟨gW.trans e3, rfl, e2.ln, (l1.trans l2).mono (by omega)⟩
        · refine ⟨146, #[], _, _, rfl, .inl ⟨rfl, rfl⟩, fun xs W => by go_simp, fun W hW => ?_⟩
          obtain ⟨gW, q1, q2, _, hR⟩ := hW
          have hR : RgM W g l b f x R2 L2 := hR
          have := anew2_any w3.heap.size w.heap.size g l b f x gen R2 L2 W hR ((b9.keep gW n9).cell 0 rfl) ((b0.keep gW n0).cell 0 rfl) (by have := l0.acts; have := l1.acts; have := l2.acts; omega) hg
          refine this.mono fun e W' hq => ?_
          obtain ⟨e1, e2, e3⟩ := hq
          rw [h3] at e1 e2
          refine ⟨c3, e1, fun hc => ⟨gW.trans e3, fun _ => q1 (by omega), fun _ => q2 (by omega), fun _ => hc, e2⟩, fun hc => ?_⟩
          rw [if_neg (by have := q1 (by omega); omega), if_neg (by have := q2 (by omega); omega)] at hfin
          rw [hfin]
          exact ⟨gW.trans e3, rfl, e2.ln, ((l1.trans l2).trans l3).mono (by omega)⟩)
    simp only [List.length_cons, List.length_nil, Nat.reduceAdd] at HP
    have HP := Lib.hid HP
    have hfin := Lib.hid hfin
    clear hB2 hlt3 b0 b1 g1 z1 gB4 gB5 b9 z4 b10 hql hll gAll n0 n1 n9 n10 nq hR5 hP5 l0 l1 l2 l3 h1 h2 h3 hPW
    go_wp2_with fail
    clear hw4 hw5 c9
    with_reducible refine HP.out.mono ?_
    rintro e w6 ⟨c, rfl, hi, he⟩
    by_cases hc : c = 0
    · subst hc
      have hi := hi rfl
      obtain ⟨g6, q1, q2, q3, hR6⟩ := hi
      have hR6 : RgM w6 g l b f x R3 L3 := hR6
      obtain ⟨b0, b1, b9, b10⟩ := HBk.out
      obtain ⟨n0, n1, n9, n10, nq⟩ := HNk.out
      have bq : Blk w6.drew q 91 #[.pointer (some ⟨q, 0, none⟩), .pointer (some ⟨l, 0, none⟩), .int .i64 (V.n : Nat), .int .i64 (V.side : Nat), .int .u32 (V.gen : Nat), .pointer rp, .bool V.dead] := by
        have := (Blk.keep HH.out.blk HR5.out.2.1 HH.out.notL).keep g6 nq
        exact this.keep ((Frm.refl (fun _ => False) w6).drew) (fun h => h)
      have bq0 : Blk w6 q 91 #[.pointer (some ⟨q, 0, none⟩), .pointer (some ⟨l, 0, none⟩), .int .i64 (V.n : Nat), .int .i64 (V.side : Nat), .int .u32 (V.gen : Nat), .pointer rp, .bool V.dead] := (Blk.keep HH.out.blk HR5.out.2.1 HH.out.notL).keep g6 nq
      have c0 : w6.drew.cell? ⟨w.heap.size, 0, none⟩ = some (.int .u32 (gen : Nat)) := (b0.keep g6 n0).cell 0 rfl
      have c9 : w6.drew.cell? ⟨w3.heap.size, 0, none⟩ = some (.pointer (some ⟨g, 0, none⟩)) := (b9.keep g6 n9).cell 0 rfl
      have nA : w.heap.size ≠ q := by have := HH.out.qlt; omega
      have nB : w3.heap.size ≠ q := by have := HH.out.qlt; have := HW1.out.2.2.1.size; have := HR3.out.2.2.size; omega
      have f3 := bq0.free 3
      have k3 := bq0.cell 3 rfl
      have bq1 := bq.set 3 (.int .i64 (s : Nat))
      have f4 := bq0.free 4
      have k4 := bq0.cell 4 rfl
      have bq2 := bq1.set 4 (.int .u32 (gen : Nat))
      have f5 := bq0.free 5
      have k5 := bq0.cell 5 rfl
      have bq3 := bq2.set 5 (.pointer (some ⟨g, 0, none⟩))
      have hcs : ∀ (W : World) (i A : Nat) (u v : Value), A ≠ q → W.cell? ⟨A, 0, none⟩ = some v → (W.setCell ⟨q, i, none⟩ u).cell? ⟨A, 0, none⟩ = some v := fun W i A u v hne hcv => by
        have gg : Frm (· = q) W (W.setCell ⟨q, i, none⟩ u) := (Frm.refl (· = q) W).setCell (fun _ => rfl) _
        exact (World.cell?_of_block (a := ⟨A, 0, none⟩) (gg.block A (World.block_lt_of_cell? W _ hcv) hne)).trans hcv
      have d0 := hcs w6.drew 3 _ (.int .i64 (s : Nat)) _ nA c0
      have d9 := hcs w6.drew 3 _ (.int .i64 (s : Nat)) _ nB c9
      have e0 := hcs _ 4 _ (.int .u32 (gen : Nat)) _ nA d0
      have e9 := hcs _ 4 _ (.int .u32 (gen : Nat)) _ nB d9
      have u0 := hcs _ 5 _ (.pointer (some ⟨g, 0, none⟩)) _ nA e0
      have u9 := hcs _ 5 _ (.pointer (some ⟨g, 0, none⟩)) _ nB e9
      have gq : Frm (· = q) w6.drew (((w6.drew.setCell ⟨q, 3, none⟩ (.int .i64 (s : Nat))).setCell ⟨q, 4, none⟩ (.int .u32 (gen : Nat))).setCell ⟨q, 5, none⟩ (.pointer (some ⟨g, 0, none⟩))) :=
        (((Frm.refl (· = q) w6.drew).setCell (p := ⟨q, 3, none⟩) (fun _ => rfl) _).setCell (p := ⟨q, 4, none⟩) (fun _ => rfl) _).setCell (p := ⟨q, 5, none⟩) (fun _ => rfl) _
      have HS6 := Lib.hid (And.intro g6 (And.intro q1 (And.intro q2 (And.intro q3 hR6))))
      have HQ := Lib.hid (And.intro bq3 gq)
      have HCC := Lib.hid (And.intro (And.intro c0 c9) (And.intro (And.intro d0 d9) (And.intro (And.intro e0 e9) (And.intro u0 u9))))
      clear g6 q1 q2 q3 hR6 b0 b1 b9 b10 n0 n1 n9 n10 nq bq bq0 bq1 bq2 bq3 gq hcs nA nB he hi HP d0 d9 e0 e9 u0 u9
      go_upto_region 6 with fail
      refine wp_region_lateW 6 9 (fun W => W.cell? ⟨w.heap.size, 0, none⟩ = some (.int .u32 (gen : Nat)) ∧ W.cell? ⟨w3.heap.size, 0, none⟩ = some (.pointer (some ⟨g, 0, none⟩)))
        (fun i => ([.pointer (some ⟨q, 0, none⟩), .pointer (some ⟨q, 0, none⟩), .pointer (some ⟨q, 0, none⟩), .int .i64 (s : Nat), .int .u32 (gen : Nat), .pointer (some ⟨g, 0, none⟩)] : List Value).getD i undef)
        (by kernel_rfl) rfl rfl rfl (by kernel_rfl) (by kernel_rfl) (by kernel_rfl) (by kernel_rfl) (by kernel_rfl) HCC.out.1 (fun k hk => ?_) ?_
      · rcases (by simp at hk; omega : k = 0 ∨ k = 1 ∨ k = 2 ∨ k = 3 ∨ k = 4 ∨ k = 5) with rfl | rfl | rfl | rfl | rfl | rfl
        · exact ⟨rfl, fun W hW => by go_simp⟩
        · exact ⟨rfl, fun W hW => by go_simp⟩
        · exact ⟨rfl, fun W hW => by go_simp⟩
        · exact ⟨rfl, fun W hW => by go_simp⟩
        · exact ⟨rfl, fun W hW => by obtain ⟨h1, h2⟩ := hW; go_simp⟩
        · exact ⟨rfl, fun W hW => by obtain ⟨h1, h2⟩ := hW; go_simp⟩
      · simp only [aO, Act.put, List.setIfInBounds_toArray, List.set_cons_zero, List.set_cons_succ, Nat.reduceAdd, List.getD_cons_zero, List.getD_cons_succ]
        refine wpTailS.cons rfl rfl (fun K hK => ?_)
        unfold Oper.wp execOp
        go_simp
        refine hK _ _ HCC.out.1 ?_
        clear hK K
        try simp only [Act.put, List.setIfInBounds_toArray, List.set_cons_zero, List.set_cons_succ]
        refine wpTailS.cons rfl rfl (fun K hK => ?_)
        unfold Oper.wp execOp
        go_simp
        refine hK _ _ HCC.out.1 ?_
        clear hK K
        try simp only [Act.put, List.setIfInBounds_toArray, List.set_cons_zero, List.set_cons_succ]
        refine wpTailS.cons rfl rfl (fun K hK => ?_)
        unfold Oper.wp execOp
        go_simp
        refine hK _ _ HCC.out.2.1 ?_
        clear hK K
        try simp only [Act.put, List.setIfInBounds_toArray, List.set_cons_zero, List.set_cons_succ]
        refine wpTailS.cons rfl rfl (fun K hK => ?_)
        unfold Oper.wp execOp
        go_simp
        refine hK _ _ HCC.out.2.1 ?_
        clear hK K
        try simp only [Act.put, List.setIfInBounds_toArray, List.set_cons_zero, List.set_cons_succ]
        refine wpTailS.cons rfl rfl (fun K hK => ?_)
        unfold Oper.wp execOp
        go_simp
        refine hK _ _ HCC.out.2.1 ?_
        clear hK K
        try simp only [Act.put, List.setIfInBounds_toArray, List.set_cons_zero, List.set_cons_succ]
        refine wpTailS.cons rfl rfl (fun K hK => ?_)
        unfold Oper.wp execOp
        go_simp
        refine hK _ _ HCC.out.2.2.1 ?_
        clear hK K
        try simp only [Act.put, List.setIfInBounds_toArray, List.set_cons_zero, List.set_cons_succ]
        refine wpTailS.cons rfl rfl (fun K hK => ?_)
        unfold Oper.wp execOp
        go_simp
        refine hK _ _ HCC.out.2.2.1 ?_
        clear hK K
        try simp only [Act.put, List.setIfInBounds_toArray, List.set_cons_zero, List.set_cons_succ]
        refine wpTailS.cons rfl rfl (fun K hK => ?_)
        unfold Oper.wp execOp
        go_simp
        refine hK _ _ HCC.out.2.2.1 ?_
        clear hK K
        try simp only [Act.put, List.setIfInBounds_toArray, List.set_cons_zero, List.set_cons_succ]
        refine wpTailS.cons rfl rfl (fun K hK => ?_)
        unfold Oper.wp execOp
        go_simp
        refine hK _ _ HCC.out.2.2.2 ?_
        clear hK K
        try simp only [Act.put, List.setIfInBounds_toArray, List.set_cons_zero, List.set_cons_succ]
        refine wpTailS.done ?_
        clear f3 f4 f5 k3 k4 k5 c0 c9
        go_wp2_with fail
        go_ret
        have hf := hfin.out
        obtain ⟨g6, q1, q2, q3, hR6⟩ := HS6.out
        rw [if_neg (by have := q1 (by decide); omega), if_neg (by have := q2 (by decide); omega)] at hf
        rw [hf]
        obtain ⟨l0, l1, l2, l3⟩ := HLs.out
        have ll : Ls L L3 _ := ((l0.trans l1).trans l2).trans l3
        obtain ⟨n0, n1, n9, n10, nq⟩ := HNk.out
        have hgq : g ≠ q := by have := HR3.out.2.1; have := HW1.out.2.2.1.size; have := HH.out.qlt; omega
        have hPn : L3.cs.length = 0 ∨ ∀ k, L3.P k → ¬ k = q := by rw [ll.cs, ll.P]; exact HH.out.np
        have hRd : RgM w6.drew g l b f x R3 L3 := hR6.keepF ((Frm.refl (fun _ => False) w6).drew)
        have hRf := hRd.keep HQ.out.2 hgq (fun h => HH.out.ne.1 h.symm) (fun h => HH.out.ne.2.1 h.symm) (fun h => HH.out.ne.2.2.1 h.symm) (fun h => HH.out.ne.2.2.2 h.symm) hPn
        have gT : Frm (WlX q l f x) w _ := (((HR5.out.2.1.mono fun _ _ h => .inr h : Frm (WlX q l f x) w w5).next g6 (fun k hk hX => by
          rcases hX with rfl | hX
          · have := HR3.out.2.1; have := HW1.out.2.2.1.size; omega
          · exact .inr hX)).drew).next HQ.out.2 (fun k _ e => .inl e)
        refine ⟨by rw [q3 (by decide)]; rfl, gT, fun _ => ⟨g, by have := HR3.out.2.1; have := HW1.out.2.2.1.size; omega, ⟨HQ.out.1, hRf.ln, HH.out.ne, hPn, ?_⟩, hRf⟩, fun h => absurd (q3 (by decide)) h⟩
        show WV.ok ⟨V.n, s, gen, V.dead⟩ L3.D.n
        rw [ll.n]
        exact ⟨HH.out.ok.n2, HH.out.ok.inn, HH.out.ok.N2, hs, hg⟩
    · have hq : ((c : Int) == 0) = false := by rw [beq_eq_false_iff_ne]; omega
      obtain ⟨g6, e2, e3, e4⟩ := he hc
      have H6 := Lib.hid (And.intro g6 (And.intro e2 (And.intro e3 (And.intro e4 hc))))
      clear hi he HP g6 e2 e3 e4 hc
      go_wp2_with fail
      go_ret
      obtain ⟨g6, e2, e3, e4, hc⟩ := H6.out
      obtain ⟨n0, n1, n9, n10, nq⟩ := HNk.out
      have ll : Ls L fin.2.1 _ := HLs.out.1.trans e4
      have gT : Frm (WlX q l f x) w w6 := (HR5.out.2.1.mono fun _ _ h => .inr h : Frm (WlX q l f x) w w5).next g6 (fun k hk hX => by
          rcases hX with rfl | hX
          · have := HR3.out.2.1; have := HW1.out.2.2.1.size; omega
          · exact .inr hX)
      have h5 : WlM w5 q l b f x V rp L0 := HH.out.lined (HR5.out.1.ln) HR5.out.2.1 HH.out.notL HLs.out.1.P HLs.out.1.cs HLs.out.1.n
      exact ⟨by rw [e2]; rfl, gT, fun h => absurd (e2.trans h) hc, fun _ => h5.lined e3 g6 nq e4.P e4.cs e4.n⟩
  · have hq : ((c0 : Int) != 0) = true := by simp; omega
    obtain rfl := hnz hc
    have H3 := Lib.hid (And.intro hc (And.intro hl3 g3))
    clear hz hnz hl3 g3 hc HF
    go_wp2_with fail
    go_ret
    have hf := HFin.out
    rw [if_pos H3.out.1] at hf
    rw [hf]
    have l0 := HLs.out.1
    obtain ⟨b0, b1, g1, z1⟩ := HW1.out
    have gA : Frm (LnX l f x) w (w3.alloc (.cells #[.pointer none] 37)) := ((g1.mono fun _ _ h => h.elim).trans H3.out.2.2).alloc _
    have gB : Frm (fun _ => False) w3 (w3.alloc (.cells #[.pointer none] 37)) := (Frm.refl _ w3).alloc _
    exact ⟨rfl, gA.mono fun _ _ h => .inr h, fun h => absurd h H3.out.1, fun _ => HH.out.lined (H3.out.2.1.keepF gB) gA HH.out.notL l0.P l0.cs l0.n⟩
end Go.Proofs.YtddjkbpgaenpgaaGreat

