/- What Commit answers and leaves. No condition. -/
import Derived.Test.YtddjkbpgaenpgaaGreatWlI
section
namespace Go.Proofs.YtddjkbpgaenpgaaGreat
open Go.RowKit Go.Shelf

/-- A log whose region is written. -/
structure WlR (w : World) (q l b f x g : Nat) (V : WV) (R : RV) (L : LV) : Prop where
  wl : WlM w q l b f x V (some ⟨g, 0, none⟩) L
  rg : RgM w g l b f x R L
  gq : g ≠ q
/-- The blocks that a Commit changes. -/
def WgX (q g l f x : Nat) (k : Nat) : Prop := k = q ∨ RgX g l f x k
theorem ls_cm (R : RV) (L : LV) (t : List UInt8) : Ls L (cmR R L t).2.1 (R.n + 2) ∧ (cmR R L t).1.at_ = R.at_ ∧ (cmR R L t).1.n = R.n := by
  have h1 := ls_ap R L t
  have h2 := ls_fl (apR R L t).1 (apR R L t).2.1
  unfold cmR
  split
  · exact ⟨h1.1.mono (by omega), h1.2⟩
  · exact ⟨h1.1.trans h2.1, h2.2.1.trans h1.2.1, h2.2.2.trans h1.2.2⟩
/-- What is noted last. -/
theorem Wlk.set6 {w : World} {q l : Nat} {V : WV} {rp : Option Addr} (h : Wlk w q l V rp) (d : Bool) : Wlk (w.setCell ⟨q, 6, none⟩ (.bool d)) q l { V with dead := d } rp := Blk.set h 6 (.bool d)
theorem RgX.not {g l f x k : Nat} (h : ¬ RgX g l f x k) : k ≠ g ∧ ¬ LnX l f x k := ⟨fun e => h (.inl e), fun e => h (.inr e)⟩
/-- What a Commit leaves. -/
def CmTo (q l b f x g : Nat) (V : WV) (fin : RV × LV × Nat) (w : World) (e : Ending) (w' : World) : Prop :=
  e = .returned (.int .i64 (fin.2.2 : Nat)) ∧ Frm (WgX q g l f x) w w' ∧ WlR w' q l b f x g { V with dead := errB fin.2.2 } fin.1 fin.2.1
set_option maxRecDepth 100000 in
set_option maxHeartbeats 16000000 in
theorem wcommit_any (q l b f x g : Nat) (V : WV) (R : RV) (L : LV) (t : List UInt8) (w : World) (h : WlR w q l b f x g V R L) (hd : V.dead = false) (hf : needs t.length ≤ R.left) (ht : t.length ≤ 1000000) (ha : L.acts ≤ 800000) (hP : L.cs.length = 0 ∨ ∀ k, L.P k → k < w.heap.size) :
    Calls Tryz.prog 46 #[.pointer (some ⟨q, 0, none⟩), .string (bs t)] w (CmTo q l b f x g V (cmR R L t) w) := by
  have hmf : ∀ (fn : Fn) (first cap : Array Value) (w : World), (Instr.makeFunc fn first cap).run Tryz.prog w = .ok (.func fn first cap) w := fun _ _ _ _ => rfl
  obtain ⟨fin, hfin⟩ : ∃ fin, cmR R L t = fin := ⟨_, rfl⟩
  have hls := ls_cm R L t
  rw [hfin] at hls ⊢
  unfold CmTo
  have hbn := h.rg.bound
  -- the two variables
  obtain ⟨w1, hw1⟩ : ∃ w1, (w.alloc (.cells #[.pointer (some ⟨q, 0, none⟩)] 73)).alloc (.cells #[.string (bs t)] 9) = w1 := ⟨_, rfl⟩
  have b0 : Blk w1 w.heap.size 73 #[.pointer (some ⟨q, 0, none⟩)] := by rw [← hw1]; exact (Blk.alloc w _ _).old _
  have b1 : Blk w1 (w.heap.size + 1) 9 #[.string (bs t)] := by
    have := Blk.alloc (w.alloc (.cells #[.pointer (some ⟨q, 0, none⟩)] 73)) 9 #[.string (bs t)]
    rw [World.size_alloc, hw1] at this
    exact this
  have g1 : Frm (fun _ => False) w w1 := by rw [← hw1]; exact ((Frm.refl _ w).alloc _).alloc _
  have z1 : w1.heap.size = w.heap.size + 2 := by rw [← hw1]; simp
  have hM := Lib.hid (wmade_any q l V (some ⟨g, 0, none⟩) w1 (h.wl.blk.keepF g1))
  have hWr := wwrit_any q l V (some ⟨g, 0, none⟩) w1 (h.wl.blk.keepF g1)
  rw [show wrB V (some ⟨g, 0, none⟩) = true by unfold wrB; rw [hd]; rfl] at hWr
  have hWr := Lib.hid hWr
  have hFt := wfits_any q l b f x g V R L (t.length : Nat) w1 (h.wl.blk.keepF g1) (h.rg.keepF g1) hd (by unfold Z64; omega)
  rw [Int.toNat_natCast, decide_eq_true hf] at hFt
  have hFt := Lib.hid hFt
  have k0 := b0.cell 0 rfl
  have k1 := b1.cell 0 rfl
  have k5 : w1.cell? ⟨q, 5, none⟩ = some (.pointer (some ⟨g, 0, none⟩)) := Blk.cell (h.wl.blk.keepF g1) 5 rfl
  have HW1 := Lib.hid (And.intro b0 (And.intro b1 (And.intro g1 z1)))
  have HH := Lib.hid h
  have HFin := Lib.hid (And.intro hfin (And.intro hls (And.intro hbn hP)))
  clear h hd hf hfin hls hbn b0 b1 g1 z1 hP
  go_enter Tryz.func46, Tryz.ntmps46
  go_wp2_with fail
  clear hw1
  refine hM.out.mono ?_
  rintro e wA ⟨rfl, rfl⟩
  go_wp2_with fail
  refine hWr.out.mono ?_
  rintro e wA ⟨rfl, rfl⟩
  go_wp2_with fail
  refine hFt.out.mono ?_
  rintro e wA ⟨rfl, gA⟩
  have k0 := gA.cellF k0
  have k1 := gA.cellF k1
  have k5 := gA.cellF k5
  have GA := Lib.hid gA
  clear gA hM hWr hFt
  go_upto_region 7 with fail
  refine wp_region_pend 6 2 (fun w' => w'.cell? ⟨w.heap.size, 0, none⟩ = some (.pointer (some ⟨q, 0, none⟩)) ∧ w'.cell? ⟨w.heap.size + 1, 0, none⟩ = some (.string (bs t)) ∧ w'.cell? ⟨q, 5, none⟩ = some (.pointer (some ⟨g, 0, none⟩)) ∧ Frm (fun _ => False) wA w') (fun w' => w'.cell? ⟨w.heap.size, 0, none⟩ = some (.pointer (some ⟨q, 0, none⟩))) (.pointer (some ⟨q, 0, none⟩)) (by kernel_rfl) rfl rfl (by kernel_rfl) rfl (by kernel_rfl) (by kernel_rfl) (by kernel_rfl) (fun _ h => h.1) ⟨k0, k1, k5, (Frm.refl _ wA).drew⟩ ⟨by rfl, fun w h => by go_simp⟩ ?_
  try simp only [Act.put, List.setIfInBounds_toArray, List.set_cons_zero, List.set_cons_succ]
  repeat' first
    | (refine CanonL.skip (by rfl) ?_; (try simp only [Act.put, List.setIfInBounds_toArray, List.set_cons_zero, List.set_cons_succ]))
    | (refine CanonL.val (v := ?_) (by rfl) ?_ ?_; rotate_left 1; (focus (intro w hSw; (try dsimp only at hSw); go_simp; (try (with_reducible rfl)); done)); (try simp only [Act.put, List.setIfInBounds_toArray, List.set_cons_zero, List.set_cons_succ]))
  refine CanonL.done ?_
  intro w9 hS9
  obtain ⟨_, _, _, g9⟩ := hS9
  obtain ⟨b0, b1, g1, z1⟩ := HW1.out
  have gw9 : Frm (fun _ => False) w w9 := (g1.trans GA.out).trans g9
  have g19 : Frm (fun _ => False) w1 w9 := GA.out.trans g9
  obtain ⟨w10, hw10⟩ : ∃ w10, w9.alloc (.cells #[.func (.func 102) #[] #[.pointer (some ⟨w.heap.size, 0, none⟩), .pointer (some ⟨w.heap.size + 1, 0, none⟩)], .func (.func 34) #[.pointer (some ⟨g, 0, none⟩)] #[]] 65) = w10 := ⟨_, rfl⟩
  have g10 : Frm (fun _ => False) w9 w10 := by rw [← hw10]; exact (Frm.refl _ w9).alloc _
  have b10 : Blk w10 w9.heap.size 65 #[.func (.func 102) #[] #[.pointer (some ⟨w.heap.size, 0, none⟩), .pointer (some ⟨w.heap.size + 1, 0, none⟩)], .func (.func 34) #[.pointer (some ⟨g, 0, none⟩)] #[]] := by rw [← hw10]; exact Blk.alloc w9 _ _
  have b0 : Blk w10 w.heap.size 73 #[.pointer (some ⟨q, 0, none⟩)] := (b0.keep g19 (fun h => h)).keep g10 (fun h => h)
  have b1 : Blk w10 (w.heap.size + 1) 9 #[.string (bs t)] := (b1.keep g19 (fun h => h)).keep g10 (fun h => h)
  have hwl := HH.out.wl.keepF (gw9.trans g10)
  have hrg := HH.out.rg.keepF (gw9.trans g10)
  have hql := HH.out.wl.qlt
  have hrl := HH.out.rg.lt
  have hs9 := gw9.size
  have hs10 := g10.size
  have hs1 := g19.size
  have nX : ∀ k, w.heap.size ≤ k → ¬ RgX g l f x k := fun k hk => RgX.notA (by omega) (by omega) (by omega) (by omega)
  have nq : ¬ RgX g l f x q := RgX.notA HH.out.gq.symm HH.out.wl.ne.1 HH.out.wl.ne.2.2.1 HH.out.wl.ne.2.2.2
  obtain ⟨hfin, hls, hbn, hP⟩ := HFin.out
  have lap := (ls_ap R L t).1
  have hCH := change_any q (.slice (some ⟨w9.heap.size, 0, none⟩) 2 2) w10 (RgX g l f x) (fun c W' => c = fin.2.2 ∧ RgM W' g l b f x fin.1 fin.2.1) (fun k hk => nX k (by omega)) (by omega) (fun W gW hz => by
    have hbW := b10.keep gW (fun h => h)
    have hP5 := perform_any w9.heap.size [.func (.func 102) #[] #[.pointer (some ⟨w.heap.size, 0, none⟩), .pointer (some ⟨w.heap.size + 1, 0, none⟩)], .func (.func 34) #[.pointer (some ⟨g, 0, none⟩)] #[]]
      (fun k W' => Frm (RgX g l f x) W W' ∧ (0 < k → (apR R L t).2.2 = 0) ∧ (1 < k → fin.2.2 = 0) ∧ RgM W' g l b f x (if k = 0 then R else if k = 1 then (apR R L t).1 else fin.1) (if k = 0 then L else if k = 1 then (apR R L t).2.1 else fin.2.1))
      (fun c W' => Frm (RgX g l f x) W W' ∧ c = fin.2.2 ∧ RgM W' g l b f x fin.1 fin.2.1) W (show 2 ≤ 100 by decide)
      ⟨Frm.refl _ _, fun h => absurd h (Nat.lt_irrefl _), fun h => absurd h (by omega), hrg.keepF gW⟩
      (fun k hk W' hW => by
        have c0 := (hbW.keep hW.1 (nX _ (by omega))).cell k (Array.getElem?_eq_getElem (by simpa using hk))
        rw [c0]
        rcases (by simp at hk; omega : k = 0 ∨ k = 1) with rfl | rfl <;> rfl)
      (fun k hk => by
        rcases (by simp at hk; omega : k = 0 ∨ k = 1) with rfl | rfl
        · refine ⟨102, #[], _, _, rfl, .inl ⟨rfl, rfl⟩, fun xs W => by go_simp, fun W' hW => ?_⟩
          obtain ⟨gW', _, _, hR⟩ := hW
          have hR : RgM W' g l b f x R L := hR
          have := commit1_any w.heap.size (w.heap.size + 1) q l g b f x V R L t W' ((hwl.blk.keepF gW).keepX gW' nq) hR (((b0.keep gW (fun h => h)).keep gW' (nX _ (Nat.le_refl _))).cell 0 rfl) (((b1.keep gW (fun h => h)).keep gW' (nX _ (by omega))).cell 0 rfl) (by omega) ht (hP.imp id fun u k hk => by have := u k hk; have := gW'.size; omega)
          refine this.mono fun e W2 hq => ?_
          obtain ⟨e1, e2, e3⟩ := hq
          refine ⟨(apR R L t).2.2, e1, fun hc => ⟨gW'.trans e3, fun _ => hc, fun h => absurd h (by omega), e2⟩, fun hc => ?_⟩
          have : fin = apR R L t := by rw [← hfin]; unfold cmR; rw [if_pos hc]
          rw [this]
          exact ⟨gW'.trans e3, rfl, e2⟩
        · refine ⟨34, _, #[], _, rfl, .inr ⟨_, rfl, rfl, rfl⟩, fun xs W => by go_simp, fun W' hW => ?_⟩
          obtain ⟨gW', q1, _, hR⟩ := hW
          have hR : RgM W' g l b f x (apR R L t).1 (apR R L t).2.1 := hR
          have := rflush13_any g l b f x _ _ W' hR (by have := lap.acts; omega)
          have hff : fin = flR (apR R L t).1 (apR R L t).2.1 := by rw [← hfin]; unfold cmR; rw [if_neg (by have := q1 (by omega); omega)]
          rw [← hff] at this
          refine this.mono fun e W2 hq => ?_
          obtain ⟨e1, e2, e3⟩ := hq
          exact ⟨fin.2.2, e1, fun hc => ⟨gW'.trans e3, fun _ => q1 (by omega), fun _ => hc, e2⟩, fun hc => ⟨gW'.trans e3, rfl, e2⟩⟩)
    refine hP5.mono fun e W' hq => ?_
    obtain ⟨c, rfl, hc0, hc1⟩ := hq
    have hfinal : Frm (RgX g l f x) W W' ∧ c = fin.2.2 ∧ RgM W' g l b f x fin.1 fin.2.1 := by
      by_cases hc : c = 0
      · obtain ⟨a1, _, a3, a4⟩ := hc0 hc
        exact ⟨a1, by rw [hc]; exact (a3 (show 1 < 2 by decide)).symm, a4⟩
      · exact hc1 hc
    have hb := Blk.keep (hwl.blk.keepF gW) hfinal.1 nq
    exact ⟨c, rfl, hfinal.1, ⟨_, hb.cell 6 rfl⟩, hb.free 6, hfinal.2⟩)
  have HCH := Lib.hid hCH
  have HK := Lib.hid (And.intro (gw9.trans g10) (And.intro nX (And.intro nq (And.intro hwl hrg))))
  have k0' := b0.cell 0 rfl
  have hsx : w9.heap.size + 0 = w9.heap.size := rfl
  clear hCH gw9 g19 g10 b10 b0 b1 hwl hrg hql hrl hs9 hs10 hs1 nX nq hfin hls hbn hP lap g9 g1 z1 k0 k1 k5 hsx
  refine ⟨_, rfl, ?_⟩
  refine OpOK.valK (W' := w10) (u := .slice (some ⟨w9.heap.size, 0, none⟩) 2 2) (by rfl) (by rw [← hw10]; first | (go_simp; done) | (go_simp; with_reducible rfl) | (go_simp; rfl)) ?_
  refine ⟨k0', ?_⟩
  clear hw10
  try simp only [Act.put, List.setIfInBounds_toArray]
  refine wpTail.cons rfl rfl (fun K hK => ?_)
  unfold Oper.wp execOp
  go_simp
  with_reducible refine HCH.out.mono ?_
  rintro e w11 ⟨c, w12, w13, rfl, hj, gX, hsz, gC, rfl⟩
  have H11 := Lib.hid (And.intro hj (And.intro gX (And.intro hsz gC)))
  clear hj gX hsz gC HCH
  refine hK _ _ ?_
  clear hK K
  try simp only [Act.put, List.setIfInBounds_toArray, List.set_cons_zero, List.set_cons_succ]
  refine wpTail.cons rfl rfl (fun K hK => ?_)
  unfold Oper.wp execOp
  go_simp
  refine hK _ _ ?_
  clear hK K
  try simp only [Act.put, List.setIfInBounds_toArray, List.set_cons_zero, List.set_cons_succ]
  refine wpTail.done ?_
  go_wp2_with fail
  go_ret
  obtain ⟨⟨rfl, hrg⟩, gX, hsz, gC⟩ := H11.out
  obtain ⟨gw, nX, nq, hwl, _⟩ := HK.out
  obtain ⟨hfin, hls, hbn, hP⟩ := HFin.out
  have hwsz := gw.size
  have hql := HH.out.wl.qlt
  have hrl := HH.out.rg.lt
  have hPn : fin.2.1.cs.length = 0 ∨ ∀ k, fin.2.1.P k → k < w.heap.size := by rw [hls.1.cs, hls.1.P]; exact hP
  have hb13 := Blk.keep (Blk.keep hwl.blk gX nq) gC (by omega)
  have hr13 := hrg.keep gC (by omega) (by omega) (by omega) (by omega) (by omega) (hPn.imp id fun u k hk => by have := u k hk; omega)
  have gq : Frm (· = q) w13 (w13.setCell ⟨q, 6, none⟩ (.bool (errB fin.2.2))) := (Frm.refl (· = q) w13).setCell (fun _ => rfl) _
  have hnp : fin.2.1.cs.length = 0 ∨ ∀ k, fin.2.1.P k → ¬ k = q := by rw [hls.1.cs, hls.1.P]; exact HH.out.wl.np
  have hr14 := hr13.keep gq HH.out.gq (fun h => HH.out.wl.ne.1 h.symm) (fun h => HH.out.wl.ne.2.1 h.symm) (fun h => HH.out.wl.ne.2.2.1 h.symm) (fun h => HH.out.wl.ne.2.2.2 h.symm) hnp
  have hok := HH.out.wl.ok
  rw [← hls.1.n] at hok
  refine ⟨rfl, ?_, ⟨⟨Wlk.set6 hb13 _, hr14.ln, HH.out.wl.ne, hnp, ⟨hok.n2, hok.inn, hok.N2, hok.s1, hok.glt⟩⟩, hr14, HH.out.gq⟩⟩
  exact (((gw.mono fun _ _ h => h.elim : Frm (WgX q g l f x) w w10).next gX (fun k hk hX => .inr hX)).next gC (fun k hk e => by omega)).next gq (fun k _ e => .inl e)
end Go.Proofs.YtddjkbpgaenpgaaGreat
end
section
namespace Go.Proofs.YtddjkbpgaenpgaaGreat
open Go.RowKit Go.Shelf

section
variable {w w' : World} {q l b f x : Nat} {V : WV} {rp : Option Addr} {L : LV}
theorem WlM.keep {X : Nat → Prop} (h : WlM w q l b f x V rp L) (hf : Frm X w w') (h0 : ¬ X q) (h1 : ¬ X l) (h2 : ¬ X b) (h3 : ¬ X f) (h4 : ¬ X x) (h5 : L.cs.length = 0 ∨ ∀ k, L.P k → ¬ X k) : WlM w' q l b f x V rp L :=
  ⟨h.blk.keepX hf h0, h.ln.keep hf h1 h2 h3 h4 h5, h.ne, h.np, h.ok⟩
theorem WlM.set6 (h : WlM w q l b f x V rp L) (d : Bool) : WlM (w.setCell ⟨q, 6, none⟩ (.bool d)) q l b f x { V with dead := d } rp L := by
  have gq : Frm (· = q) w (w.setCell ⟨q, 6, none⟩ (.bool d)) := (Frm.refl (· = q) w).setCell (fun _ => rfl) _
  exact ⟨h.blk.set6 d, h.ln.keep gq (fun e => h.ne.1 e.symm) (fun e => h.ne.2.1 e.symm) (fun e => h.ne.2.2.1 e.symm) (fun e => h.ne.2.2.2 e.symm) h.np, h.ne, h.np, ⟨h.ok.n2, h.ok.inn, h.ok.N2, h.ok.s1, h.ok.glt⟩⟩
end
/-- What a Checkpoint leaves. -/
def CkTo (q l b f x : Nat) (V : WV) (rp : Option Addr) (fin : RV × LV × Nat) (w : World) (e : Ending) (w' : World) : Prop :=
  e = .returned (.int .i64 (fin.2.2 : Nat)) ∧ Frm (WlX q l f x) w w' ∧
    (fin.2.2 = 0 → ∃ g, w.heap.size ≤ g ∧ WlR w' q l b f x g ⟨V.n, 1 - V.side, V.gen + 1, false⟩ fin.1 fin.2.1) ∧
    (fin.2.2 ≠ 0 → WlM w' q l b f x { V with dead := true } rp fin.2.1)
set_option maxRecDepth 100000 in
set_option maxHeartbeats 16000000 in
theorem wcheck_any (q l b f x : Nat) (V : WV) (rp : Option Addr) (L : LV) (t : List UInt8) (w : World) (h : WlM w q l b f x V rp L) (hd : V.dead = false) (hr : t.length ≤ V.room) (ha : L.acts ≤ 800000) (hP : L.cs.length = 0 ∨ ∀ k, L.P k → k < w.heap.size) (hg : V.gen + 1 < 4294967296) :
    Calls Tryz.prog 48 #[.pointer (some ⟨q, 0, none⟩), .string (bs t)] w (CkTo q l b f x V rp (anR L ((1 - V.side) * V.n) V.n (V.gen + 1) t) w) := by
  have hmf : ∀ (fn : Fn) (first cap : Array Value) (w : World), (Instr.makeFunc fn first cap).run Tryz.prog w = .ok (.func fn first cap) w := fun _ _ _ _ => rfl
  have hok := h.ok
  have hN : V.n ≤ 1024 := by have := hok.inn; have := hok.N2; omega
  have ht : t.length ≤ 1000000 := by unfold WV.room at hr; omega
  obtain ⟨fin, hfin⟩ : ∃ fin, anR L ((1 - V.side) * V.n) V.n (V.gen + 1) t = fin := ⟨_, rfl⟩
  have hls := (ls_an L ((1 - V.side) * V.n) V.n (V.gen + 1) t).1
  rw [hfin] at hls ⊢
  unfold CkTo
  -- the two variables
  obtain ⟨w1, hw1⟩ : ∃ w1, (w.alloc (.cells #[.pointer (some ⟨q, 0, none⟩)] 73)).alloc (.cells #[.string (bs t)] 9) = w1 := ⟨_, rfl⟩
  have b0 : Blk w1 w.heap.size 73 #[.pointer (some ⟨q, 0, none⟩)] := by rw [← hw1]; exact (Blk.alloc w _ _).old _
  have b1 : Blk w1 (w.heap.size + 1) 9 #[.string (bs t)] := by
    have := Blk.alloc (w.alloc (.cells #[.pointer (some ⟨q, 0, none⟩)] 73)) 9 #[.string (bs t)]
    rw [World.size_alloc, hw1] at this
    exact this
  have g1 : Frm (fun _ => False) w w1 := by rw [← hw1]; exact ((Frm.refl _ w).alloc _).alloc _
  have z1 : w1.heap.size = w.heap.size + 2 := by rw [← hw1]; simp
  have h1 := h.keepF g1
  have hM := Lib.hid (wmade_any q l V rp w1 h1.blk)
  have hT := wtakes_any q l V rp t w1 h1.blk hok.n2 (by omega)
  rw [if_neg (by omega)] at hT
  have hT := Lib.hid hT
  have k0 := b0.cell 0 rfl
  have k1 := b1.cell 0 rfl
  have k4 : w1.cell? ⟨q, 4, none⟩ = some (.int .u32 (V.gen : Nat)) := Blk.cell h1.blk 4 rfl
  have k6 : w1.cell? ⟨q, 6, none⟩ = some (.bool V.dead) := Blk.cell h1.blk 6 rfl
  rw [hd] at k6
  obtain ⟨gn, hgn⟩ : ∃ gn, V.gen = gn := ⟨_, rfl⟩
  have hq : ((gn : Int) == 4294967295) = false := by rw [beq_eq_false_iff_ne]; omega
  rw [hgn] at k4
  obtain ⟨w10, hw10⟩ : ∃ w10, w1.alloc (.cells #[.func (.func 103) #[] #[.pointer (some ⟨w.heap.size, 0, none⟩), .pointer (some ⟨w.heap.size + 1, 0, none⟩)]] 65) = w10 := ⟨_, rfl⟩
  have g10 : Frm (fun _ => False) w1 w10 := by rw [← hw10]; exact (Frm.refl _ w1).alloc _
  have z10 : w10.heap.size = w1.heap.size + 1 := by rw [← hw10]; simp
  have b10 : Blk w10 w1.heap.size 65 #[.func (.func 103) #[] #[.pointer (some ⟨w.heap.size, 0, none⟩), .pointer (some ⟨w.heap.size + 1, 0, none⟩)]] := by rw [← hw10]; exact Blk.alloc w1 _ _
  have b0 := b0.keep g10 (fun h => h)
  have b1 := b1.keep g10 (fun h => h)
  have h10 := h1.keepF g10
  have hql := h.qlt
  have hll := h.ln.lt
  have nX : ∀ k, w.heap.size ≤ k → ¬ WlX q l f x k := fun k hk hX => by
    rcases hX with rfl | hX
    · omega
    · exact notX (by omega) (by omega) (by omega) hX
  have hCH := change_any q (.slice (some ⟨w1.heap.size, 0, none⟩) 1 1) w10 (WlX q l f x) (fun c W' => c = fin.2.2 ∧ (fin.2.2 = 0 → ∃ g, w10.heap.size + 2 ≤ g ∧ WlM W' q l b f x { V with side := 1 - V.side, gen := V.gen + 1 } (some ⟨g, 0, none⟩) fin.2.1 ∧ RgM W' g l b f x fin.1 fin.2.1) ∧ (fin.2.2 ≠ 0 → WlM W' q l b f x V rp fin.2.1)) (fun k hk => nX k (by omega)) (by omega) (fun W gW hz => by
    have hbW := b10.keep gW (fun h => h)
    have hP5 := perform_any w1.heap.size [.func (.func 103) #[] #[.pointer (some ⟨w.heap.size, 0, none⟩), .pointer (some ⟨w.heap.size + 1, 0, none⟩)]]
      (fun k W' => if k = 0 then W' = W else AnTo q l b f x V rp (1 - V.side) (V.gen + 1) fin W (.returned (.int .i64 (fin.2.2 : Nat))) W' ∧ fin.2.2 = 0)
      (fun c W' => AnTo q l b f x V rp (1 - V.side) (V.gen + 1) fin W (.returned (.int .i64 (fin.2.2 : Nat))) W' ∧ c = fin.2.2) W (show 1 ≤ 100 by decide)
      rfl
      (fun k hk W' hW => by
        obtain rfl : k = 0 := by simp at hk; omega
        have hW : W' = W := hW
        subst hW
        exact hbW.cell 0 rfl)
      (fun k hk => by
        obtain rfl : k = 0 := by simp at hk; omega
        refine ⟨103, #[], _, _, rfl, .inl ⟨rfl, rfl⟩, fun xs W => by go_simp, fun W' hW => ?_⟩
        have hW : W' = W := hW
        subst hW
        have := check1_any w.heap.size (w.heap.size + 1) q l b f x V rp L t W' (h10.keepF gW) ((b0.keep gW (fun h => h)).cell 0 rfl) ((b1.keep gW (fun h => h)).cell 0 rfl) ha ht (hP.imp id fun u k hk => by have := u k hk; have := gW.size; omega) hg
        rw [hfin] at this
        refine this.mono fun e W2 hq => ?_
        obtain ⟨e1, e2⟩ := hq
        refine ⟨fin.2.2, e1, fun hc => ?_, fun hc => ⟨⟨rfl, e2⟩, rfl⟩⟩
        have hgo : AnTo q l b f x V rp (1 - V.side) (V.gen + 1) fin W' (.returned (.int .i64 (fin.2.2 : Nat))) W2 ∧ fin.2.2 = 0 := ⟨⟨rfl, e2⟩, hc⟩
        exact hgo)
    refine hP5.mono fun e W' hq => ?_
    obtain ⟨c, rfl, hc0, hc1⟩ := hq
    have hfinal : AnTo q l b f x V rp (1 - V.side) (V.gen + 1) fin W (.returned (.int .i64 (fin.2.2 : Nat))) W' ∧ c = fin.2.2 := by
      by_cases hc : c = 0
      · have h2 := hc0 hc
        have h2 : AnTo q l b f x V rp (1 - V.side) (V.gen + 1) fin W (.returned (.int .i64 (fin.2.2 : Nat))) W' ∧ fin.2.2 = 0 := h2
        exact ⟨h2.1, by rw [hc]; exact h2.2.symm⟩
      · exact hc1 hc
    obtain ⟨⟨_, gX, a1, a2⟩, hcf⟩ := hfinal
    have hbb : (∃ d, W'.cell? ⟨q, 6, none⟩ = some (.bool d)) ∧ W'.frozen? ⟨q, 6, none⟩ = false := by
      by_cases hc : fin.2.2 = 0
      · obtain ⟨g, _, hm, _⟩ := a1 hc
        exact ⟨⟨_, Blk.cell hm.blk 6 rfl⟩, Blk.free hm.blk 6⟩
      · have hm := a2 hc
        exact ⟨⟨_, Blk.cell hm.blk 6 rfl⟩, Blk.free hm.blk 6⟩
    exact ⟨c, rfl, gX, hbb.1, hbb.2, hcf, fun hc => by
      obtain ⟨g, e1, e2⟩ := a1 hc
      exact ⟨g, by omega, e2⟩, a2⟩)
  have HCH := Lib.hid hCH
  have HH := Lib.hid h
  have HK := Lib.hid (And.intro (g1.trans g10) (And.intro nX (And.intro hls (And.intro hP (And.intro hok (And.intro hd hgn))))))
  clear h hd hr ha hP hg hok hN ht hfin hls b0 b1 g1 z1 h1 hgn g10 z10 b10 h10 hql hll nX hCH
  go_enter Tryz.func48, Tryz.ntmps48
  go_wp2_with fail
  clear hw1
  refine hM.out.mono ?_
  rintro e wA ⟨rfl, rfl⟩
  go_wp2_with fail
  refine hT.out.mono ?_
  rintro e wA ⟨rfl, rfl⟩
  go_wp2_with fail
  clear hw10 k0 k1 k4 k6
  with_reducible refine HCH.out.mono ?_
  rintro e w11 ⟨c, w12, w13, rfl, hj, gX, hsz, gC, rfl⟩
  have H11 := Lib.hid (And.intro hj (And.intro gX (And.intro hsz gC)))
  clear hj gX hsz gC HCH
  go_wp2_with fail
  go_ret
  obtain ⟨⟨rfl, a1, a2⟩, gX, hsz, gC⟩ := H11.out
  obtain ⟨gw, nX, hls, hP, hok, hd, hgn⟩ := HK.out
  have hwsz := gw.size
  have hql := HH.out.qlt
  have hll := HH.out.ln.lt
  have hPn : fin.2.1.cs.length = 0 ∨ ∀ k, fin.2.1.P k → k < w.heap.size := by rw [hls.cs, hls.P]; exact hP
  have hnp : fin.2.1.cs.length = 0 ∨ ∀ k, fin.2.1.P k → ¬ k = q := by rw [hls.cs, hls.P]; exact HH.out.np
  have gq : Frm (· = q) w13 (w13.setCell ⟨q, 6, none⟩ (.bool (errB fin.2.2))) := (Frm.refl (· = q) w13).setCell (fun _ => rfl) _
  have hne := HH.out.ne
  refine ⟨rfl, ?_, fun hc => ?_, fun hc => ?_⟩
  · exact (((gw.mono fun _ _ h => h.elim : Frm (WlX q l f x) w w10).trans gX).next gC (fun k hk e => by omega)).next gq (fun k _ e => .inl e)
  · obtain ⟨g, hg, hm, hr⟩ := a1 hc
    have hgl := hr.lt
    have hm13 := hm.keep gC (by omega) (by omega) (by omega) (by omega) (by omega) (hPn.imp id fun u k hk => by have := u k hk; omega)
    have hr13 := hr.keep gC (by omega) (by omega) (by omega) (by omega) (by omega) (hPn.imp id fun u k hk => by have := u k hk; omega)
    have hr14 := hr13.keep gq (by omega) (fun h => hne.1 h.symm) (fun h => hne.2.1 h.symm) (fun h => hne.2.2.1 h.symm) (fun h => hne.2.2.2 h.symm) hnp
    have hm14 := hm13.set6 (errB fin.2.2)
    have hE : errB fin.2.2 = false := by rw [hc]; rfl
    rw [hE] at hm14 hr14 ⊢
    exact ⟨g, by omega, hm14, hr14, by omega⟩
  · have hm := a2 hc
    have hm13 := hm.keep gC (by omega) (by omega) (by omega) (by omega) (by omega) (hPn.imp id fun u k hk => by have := u k hk; omega)
    have hm14 := hm13.set6 (errB fin.2.2)
    have hE : errB fin.2.2 = true := by unfold errB; simpa using hc
    rw [hE] at hm14 ⊢
    exact hm14
end Go.Proofs.YtddjkbpgaenpgaaGreat
end
section
namespace Go.Proofs.YtddjkbpgaenpgaaGreat
open Go.RowKit Go.Shelf

theorem NoWl.keepF {p : Value} {w w' : World} (h : NoWl p w) (g : Frm (fun _ => False) w w') : NoWl p w' := h.imp id fun ⟨b, e, c⟩ => ⟨b, e, g.cellF c⟩
set_option maxRecDepth 100000 in
set_option maxHeartbeats 2000000 in
/-- A log that has nothing yet. -/
theorem wover_any (l b f x : Nat) (L : LV) (w : World) (h : LnM w l b f x L) :
    Calls Tryz.prog 89 #[.pointer (some ⟨l, 0, none⟩)] w fun e w' => e = .returned (.tuple #[.pointer (some ⟨w.heap.size, 0, none⟩), .int .i64 0]) ∧ Wlk w' w.heap.size l ⟨L.D.n / 4, 0, 0, false⟩ none ∧ Frm (fun _ => False) w w' ∧ w'.heap.size = w.heap.size + 1 := by
  have HD := Lib.hid (ldev_any l b f x L w h)
  have HB := Lib.hid (blocks_any b f x L.D w h.dev)
  have hN := h.dev.ok.hi
  have hE := rdev_eqn
  obtain ⟨N, hNN⟩ : ∃ N, L.D.n = N := ⟨_, rfl⟩
  rw [hNN] at HB hN ⊢
  have hdiv : (N : Int).tdiv 4 = ((N / 4 : Nat) : Int) := by rw [Int.tdiv_eq_ediv_of_nonneg (by omega)]; omega
  have hw4 : IntKind.i64.wrap ((N / 4 : Nat) : Int) = ((N / 4 : Nat) : Int) := IntWalk.i64_in _ (by omega)
  obtain ⟨m, hm⟩ : ∃ m, N / 4 = m := ⟨_, rfl⟩
  rw [hm] at hdiv hw4 ⊢
  clear h hNN hm hN
  go_enter Tryz.func89, Tryz.ntmps89
  go_wp2_with fail
  refine HD.out.mono ?_
  rintro e w2 ⟨rfl, rfl⟩
  go_wp2_with fail
  refine HB.out.mono ?_
  rintro e w2 ⟨rfl, rfl⟩
  go_wp2_with fail
  go_ret2
  refine ⟨rfl, ?_, ?_, ?_⟩
  · exact Blk.alloc w 91 #[.pointer (some ⟨w.heap.size, 0, none⟩), .pointer (some ⟨l, 0, none⟩), .int .i64 (m : Nat), .int .i64 0, .int .u32 0, .pointer none, .bool false]
  · exact (Frm.refl _ w).alloc _
  · exact World.size_alloc _ _
end Go.Proofs.YtddjkbpgaenpgaaGreat
end
