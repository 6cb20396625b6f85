/- What Commit answers and leaves. No condition. -/
import Derived.Test.YtddjkbpgaenpgaaGreatWlI
namespace Go.Proofs.YtddjkbpgaenpgaaGreat
open Go.RowKit Go.Shelf

/-- A log whose region is written. -/
structure WlR (w : World) (q l b f x g : Nat) (V : WV) (R : RV) (L : LV) : Prop where
  wl : WlM w q l b f x V (some ⟨g, 0, none⟩) L
  rg : RgM w g l b f x R L
  gq : g ≠ q
/-- The blocks that a Commit changes. -/
def WgX (q g l f x : Nat) (k : Nat) : Prop := k = q ∨ RgX g l f x k
theorem ls_cm (R : RV) (L : LV) (t : List UInt8) : Ls L (cmR R L t).2.1 (R.n + 2) ∧ (cmR R L t).1.at_ = R.at_ ∧ (cmR R L t).1.n = R.n := by
  have h1 := ls_ap R L t
  have h2 := ls_fl (apR R L t).1 (apR R L t).2.1
  unfold cmR
  split
  · exact ⟨h1.1.mono (by omega), h1.2⟩
  · exact ⟨h1.1.trans h2.1, h2.2.1.trans h1.2.1, h2.2.2.trans h1.2.2⟩
/-- What is noted last. -/
theorem Wlk.set6 {w : World} {q l : Nat} {V : WV} {rp : Option Addr} (h : Wlk w q l V rp) (d : Bool) : Wlk (w.setCell ⟨q, 6, none⟩ (.bool d)) q l { V with dead := d } rp := Blk.set h 6 (.bool d)
theorem RgX.not {g l f x k : Nat} (h : ¬ RgX g l f x k) : k ≠ g ∧ ¬ LnX l f x k := ⟨fun e => h (.inl e), fun e => h (.inr e)⟩
/-- What a Commit leaves. -/
def CmTo (q l b f x g : Nat) (V : WV) (fin : RV × LV × Nat) (w : World) (e : Ending) (w' : World) : Prop :=
  e = .returned (.int .i64 (fin.2.2 : Nat)) ∧ Frm (WgX q g l f x) w w' ∧ WlR w' q l b f x g { V with dead := errB fin.2.2 } fin.1 fin.2.1
set_option maxRecDepth 100000 in
set_option maxHeartbeats 16000000 in
theorem wcommit_any (q l b f x g : Nat) (V : WV) (R : RV) (L : LV) (t : List UInt8) (w : World) (h : WlR w q l b f x g V R L) (hd : V.dead = false) (hf : needs t.length ≤ R.left) (ht : t.length ≤ 1000000) (ha : L.acts ≤ 800000) (hP : L.cs.length = 0 ∨ ∀ k, L.P k → k < w.heap.size) :
    Calls Tryz.prog 46 #[.pointer (some ⟨q, 0, none⟩), .string (bs t)] w (CmTo q l b f x g V (cmR R L t) w) := by
  have hmf : ∀ (fn : Fn) (first cap : Array Value) (w : World), (Instr.makeFunc fn first cap).run Tryz.prog w = .ok (.func fn first cap) w := fun _ _ _ _ => rfl
  obtain ⟨fin, hfin⟩ : ∃ fin, cmR R L t = fin := ⟨_, rfl⟩
  have hls := ls_cm R L t
  rw [hfin] at hls ⊢
  unfold CmTo
  have hbn := h.rg.bound
  -- the two variables
  obtain ⟨w1, hw1⟩ : ∃ w1, (w.alloc (.cells #[.pointer (some ⟨q, 0, none⟩)] 73)).alloc (.cells #[.string (bs t)] 9) = w1 := ⟨_, rfl⟩
  have b0 : Blk w1 w.heap.size 73 #[.pointer (some ⟨q, 0, none⟩)] := by rw [← hw1]; exact (Blk.alloc w _ _).old _
  have b1 : Blk w1 (w.heap.size + 1) 9 #[.string (bs t)] := by
    have := Blk.alloc (w.alloc (.cells #[.pointer (some ⟨q, 0, none⟩)] 73)) 9 #[.string (bs t)]
    rw [World.size_alloc, hw1] at this
    exact this
  have g1 : Frm (fun _ => False) w w1 := by rw [← hw1]; exact ((Frm.refl _ w).alloc _).alloc _
  have z1 : w1.heap.size = w.heap.size + 2 := by rw [← hw1]; simp
  have hM := Lib.hid (wmade_any q l V (some ⟨g, 0, none⟩) w1 (h.wl.blk.keepF g1))
  have hWr := wwrit_any q l V (some ⟨g, 0, none⟩) w1 (h.wl.blk.keepF g1)
  rw [show wrB V (some ⟨g, 0, none⟩) = true by unfold wrB; rw [hd]; rfl] at hWr
  have hWr := Lib.hid hWr
  have hFt := wfits_any q l b f x g V R L (t.length : Nat) w1 (h.wl.blk.keepF g1) (h.rg.keepF g1) hd (by unfold Z64; omega)
  rw [Int.toNat_natCast, decide_eq_true hf] at hFt
  have hFt := Lib.hid hFt
  have k0 := b0.cell 0 rfl
  have k1 := b1.cell 0 rfl
  have k5 : w1.cell? ⟨q, 5, none⟩ = some (.pointer (some ⟨g, 0, none⟩)) := Blk.cell (h.wl.blk.keepF g1) 5 rfl
  have HW1 := Lib.hid (And.intro b0 (And.intro b1 (And.intro g1 z1)))
  have HH := Lib.hid h
  have HFin := Lib.hid (And.intro hfin (And.intro hls (And.intro hbn hP)))
  clear h hd hf hfin hls hbn b0 b1 g1 z1 hP
  go_enter Tryz.func46, Tryz.ntmps46
  go_wp2_with fail
  clear hw1
  refine hM.out.mono ?_
  rintro e wA ⟨rfl, rfl⟩
  go_wp2_with fail
  refine hWr.out.mono ?_
  rintro e wA ⟨rfl, rfl⟩
  go_wp2_with fail
  refine hFt.out.mono ?_
  rintro e wA ⟨rfl, gA⟩
  have k0 := gA.cellF k0
  have k1 := gA.cellF k1
  have k5 := gA.cellF k5
  have GA := Lib.hid gA
  clear gA hM hWr hFt
  go_upto_region 7 with fail
  refine wp_region_pend 6 2 (fun w' => w'.cell? ⟨w.heap.size, 0, none⟩ = some (.pointer (some ⟨q, 0, none⟩)) ∧ w'.cell? ⟨w.heap.size + 1, 0, none⟩ = some (.string (bs t)) ∧ w'.cell? ⟨q, 5, none⟩ = some (.pointer (some ⟨g, 0, none⟩)) ∧ Frm (fun _ => False) wA w') (fun w' => w'.cell? ⟨w.heap.size, 0, none⟩ = some (.pointer (some ⟨q, 0, none⟩))) (.pointer (some ⟨q, 0, none⟩)) (by kernel_rfl) rfl rfl (by kernel_rfl) rfl (by kernel_rfl) (by kernel_rfl) (by kernel_rfl) (fun _ h => h.1) ⟨k0, k1, k5, (Frm.refl _ wA).drew⟩ ⟨by rfl, fun w h => by go_simp⟩ ?_
  try simp only [Act.put, List.setIfInBounds_toArray, List.set_cons_zero, List.set_cons_succ]
  repeat' first
    | (refine CanonL.skip (by rfl) ?_; (try simp only [Act.put, List.setIfInBounds_toArray, List.set_cons_zero, List.set_cons_succ]))
    | (refine CanonL.val (v := ?_) (by rfl) ?_ ?_; rotate_left 1; (focus (intro w hSw; (try dsimp only at hSw); go_simp; (try (with_reducible rfl)); done)); (try simp only [Act.put, List.setIfInBounds_toArray, List.set_cons_zero, List.set_cons_succ]))
  refine CanonL.done ?_
  intro w9 hS9
  obtain ⟨_, _, _, g9⟩ := hS9
  obtain ⟨b0, b1, g1, z1⟩ := HW1.out
  have gw9 : Frm (fun _ => False) w w9 := (g1.trans GA.out).trans g9
  have g19 : Frm (fun _ => False) w1 w9 := GA.out.trans g9
  obtain ⟨w10, hw10⟩ : ∃ w10, w9.alloc (.cells #[.func (.func 102) #[] #[.pointer (some ⟨w.heap.size, 0, none⟩), .pointer (some ⟨w.heap.size + 1, 0, none⟩)], .func (.func 34) #[.pointer (some ⟨g, 0, none⟩)] #[]] 65) = w10 := ⟨_, rfl⟩
  have g10 : Frm (fun _ => False) w9 w10 := by rw [← hw10]; exact (Frm.refl _ w9).alloc _
  have b10 : Blk w10 w9.heap.size 65 #[.func (.func 102) #[] #[.pointer (some ⟨w.heap.size, 0, none⟩), .pointer (some ⟨w.heap.size + 1, 0, none⟩)], .func (.func 34) #[.pointer (some ⟨g, 0, none⟩)] #[]] := by rw [← hw10]; exact Blk.alloc w9 _ _
  have b0 : Blk w10 w.heap.size 73 #[.pointer (some ⟨q, 0, none⟩)] := (b0.keep g19 (fun h => h)).keep g10 (fun h => h)
  have b1 : Blk w10 (w.heap.size + 1) 9 #[.string (bs t)] := (b1.keep g19 (fun h => h)).keep g10 (fun h => h)
  have hwl := HH.out.wl.keepF (gw9.trans g10)
  have hrg := HH.out.rg.keepF (gw9.trans g10)
  have hql := HH.out.wl.qlt
  have hrl := HH.out.rg.lt
  have hs9 := gw9.size
  have hs10 := g10.size
  have hs1 := g19.size
  have nX : ∀ k, w.heap.size ≤ k → ¬ RgX g l f x k := fun k hk => RgX.notA (by omega) (by omega) (by omega) (by omega)
  have nq : ¬ RgX g l f x q := RgX.notA HH.out.gq.symm HH.out.wl.ne.1 HH.out.wl.ne.2.2.1 HH.out.wl.ne.2.2.2
  obtain ⟨hfin, hls, hbn, hP⟩ := HFin.out
  have lap := (ls_ap R L t).1
  have hCH := change_any q (.slice (some ⟨w9.heap.size, 0, none⟩) 2 2) w10 (RgX g l f x) (fun c W' => c = fin.2.2 ∧ RgM W' g l b f x fin.1 fin.2.1) (fun k hk => nX k (by omega)) (by omega) (fun W gW hz => by
    have hbW := b10.keep gW (fun h => h)
    have hP5 := perform_any w9.heap.size [.func (.func 102) #[] #[.pointer (some ⟨w.heap.size, 0, none⟩), .pointer (some ⟨w.heap.size + 1, 0, none⟩)], .func (.func 34) #[.pointer (some ⟨g, 0, none⟩)] #[]]
      (fun k W' => Frm (RgX g l f x) W W' ∧ (0 < k → (apR R L t).2.2 = 0) ∧ (1 < k → fin.2.2 = 0) ∧ RgM W' g l b f x (if k = 0 then R else if k = 1 then (apR R L t).1 else fin.1) (if k = 0 then L else if k = 1 then (apR R L t).2.1 else fin.2.1))
      (fun c W' => Frm (RgX g l f x) W W' ∧ c = fin.2.2 ∧ RgM W' g l b f x fin.1 fin.2.1) W (show 2 ≤ 100 by decide)
      ⟨Frm.refl _ _, fun h => absurd h (Nat.lt_irrefl _), fun h => absurd h (by omega), hrg.keepF gW⟩
      (fun k hk W' hW => by
        have c0 := (hbW.keep hW.1 (nX _ (by omega))).cell k (Array.getElem?_eq_getElem (by simpa using hk))
        rw [c0]
        rcases (by simp at hk; omega : k = 0 ∨ k = 1) with rfl | rfl <;> rfl)
      (fun k hk => by
        rcases (by simp at hk; omega : k = 0 ∨ k = 1) with rfl | rfl
        · refine ⟨102, #[], _, _, rfl, .inl ⟨rfl, rfl⟩, fun xs W => by go_simp, fun W' hW => ?_⟩
          obtain ⟨gW', _, _, hR⟩ := hW
          have hR : RgM W' g l b f x R L := hR
          have := commit1_any w.heap.size (w.heap.size + 1) q l g b f x V R L t W' ((hwl.blk.keepF gW).keepX gW' nq) hR (((b0.keep gW (fun h => h)).keep gW' (nX _ (Nat.le_refl _))).cell 0 rfl) (((b1.keep gW (fun h => h)).keep gW' (nX _ (by omega))).cell 0 rfl) (by omega) ht (hP.imp id fun u k hk => by have := u k hk; have := gW'.size; omega)
          refine this.mono fun e W2 hq => ?_
          obtain ⟨e1, e2, e3⟩ := hq
          refine ⟨(apR R L t).2.2, e1, fun hc => ⟨gW'.trans e3, fun _ => hc, fun h => absurd h (by omega), e2⟩, fun hc => ?_⟩
          have : fin = apR R L t := by rw [← hfin]; unfold cmR; rw [if_pos hc]
          rw [this]
          exact ⟨gW'.trans e3, rfl, e2⟩
        · refine ⟨34, _, #[], _, rfl, .inr ⟨_, rfl, rfl, rfl⟩, fun xs W => by go_simp, fun W' hW => ?_⟩
          obtain ⟨gW', q1, _, hR⟩ := hW
          have hR : RgM W' g l b f x (apR R L t).1 (apR R L t).2.1 := hR
          have := rflush13_any g l b f x _ _ W' hR (by have := lap.acts; omega)
          have hff : fin = flR (apR R L t).1 (apR R L t).2.1 := by rw [← hfin]; unfold cmR; rw [if_neg (by have := q1 (by omega); omega)]
          rw [← hff] at this
          refine this.mono fun e W2 hq => ?_
          obtain ⟨e1, e2, e3⟩ := hq
          exact ⟨fin.2.2, e1, fun hc => ⟨gW'.trans e3, fun _ => q1 (by omega), fun _ => hc, e2⟩, fun hc => ⟨gW'.trans e3, rfl, e2⟩⟩)
    refine hP5.mono fun e W' hq => ?_
    obtain ⟨c, rfl, hc0, hc1⟩ := hq
    have hfinal : Frm (RgX g l f x) W W' ∧ c = fin.2.2 ∧ RgM W' g l b f x fin.1 fin.2.1 := by
      by_cases hc : c = 0
      · obtain ⟨a1, _, a3, a4⟩ := hc0 hc
        exact ⟨a1, by rw [hc]; exact (a3 (show 1 < 2 by decide)).symm, a4⟩
      · exact hc1 hc
    have hb := Blk.keep (hwl.blk.keepF gW) hfinal.1 nq
    exact ⟨c, rfl, hfinal.1, ⟨_, hb.cell 6 rfl⟩, hb.free 6, hfinal.2⟩)
  have HCH := Lib.hid hCH
  have HK := Lib.hid (And.intro (gw9.trans g10) (And.intro nX (And.intro nq (And.intro hwl hrg))))
  have k0' := b0.cell 0 rfl
  have hsx : w9.heap.size + 0 = w9.heap.size := rfl
  clear hCH gw9 g19 g10 b10 b0 b1 hwl hrg hql hrl hs9 hs10 hs1 nX nq hfin hls hbn hP lap g9 g1 z1 k0 k1 k5 hsx
  refine ⟨_, rfl, ?_⟩
  refine OpOK.valK (W' := w10) (u := .slice (some ⟨w9.heap.size, 0, none⟩) 2 2) (by rfl) (by rw [← hw10]; first | (go_simp; done) | (go_simp; with_reducible rfl) | (go_simp; rfl)) ?_
  refine ⟨k0', ?_⟩
  clear hw10
  try simp only [Act.put, List.setIfInBounds_toArray]
  refine wpTail.cons rfl rfl (fun K hK => ?_)
  unfold Oper.wp execOp
  go_simp
  with_reducible refine HCH.out.mono ?_
  rintro e w11 ⟨c, w12, w13, rfl, hj, gX, hsz, gC, rfl⟩
  have H11 := Lib.hid (And.intro hj (And.intro gX (And.intro hsz gC)))
  clear hj gX hsz gC HCH
  refine hK _ _ ?_
  clear hK K
  try simp only [Act.put, List.setIfInBounds_toArray, List.set_cons_zero, List.set_cons_succ]
  refine wpTail.cons rfl rfl (fun K hK => ?_)
  unfold Oper.wp execOp
  go_simp
  refine hK _ _ ?_
  clear hK K
  try simp only [Act.put, List.setIfInBounds_toArray, List.set_cons_zero, List.set_cons_succ]
  refine wpTail.done ?_
  go_wp2_with fail
  go_ret
  obtain ⟨⟨rfl, hrg⟩, gX, hsz, gC⟩ := H11.out
  obtain ⟨gw, nX, nq, hwl, _⟩ := HK.out
  obtain ⟨hfin, hls, hbn, hP⟩ := HFin.out
  have hwsz := gw.size
  have hql := HH.out.wl.qlt
  have hrl := HH.out.rg.lt
  have hPn : fin.2.1.cs.length = 0 ∨ ∀ k, fin.2.1.P k → k < w.heap.size := by rw [hls.1.cs, hls.1.P]; exact hP
  have hb13 := Blk.keep (Blk.keep hwl.blk gX nq) gC (by omega)
  have hr13 := hrg.keep gC (by omega) (by omega) (by omega) (by omega) (by omega) (hPn.imp id fun u k hk => by have := u k hk; omega)
  have gq : Frm (· = q) w13 (w13.setCell ⟨q, 6, none⟩ (.bool (errB fin.2.2))) := (Frm.refl (· = q) w13).setCell (fun _ => rfl) _
  have hnp : fin.2.1.cs.length = 0 ∨ ∀ k, fin.2.1.P k → ¬ k = q := by rw [hls.1.cs, hls.1.P]; exact HH.out.wl.np
  have hr14 := hr13.keep gq HH.out.gq (fun h => HH.out.wl.ne.1 h.symm) (fun h => HH.out.wl.ne.2.1 h.symm) (fun h => HH.out.wl.ne.2.2.1 h.symm) (fun h => HH.out.wl.ne.2.2.2 h.symm) hnp
  have hok := HH.out.wl.ok
  rw [← hls.1.n] at hok
  refine ⟨rfl, ?_, ⟨⟨Wlk.set6 hb13 _, hr14.ln, HH.out.wl.ne, hnp, ⟨hok.n2, hok.inn, hok.N2, hok.s1, hok.glt⟩⟩, hr14, HH.out.gq⟩⟩
  exact (((gw.mono fun _ _ h => h.elim : Frm (WgX q g l f x) w w10).next gX (fun k hk hX => .inr hX)).next gC (fun k hk e => by omega)).next gq (fun k _ e => .inl e)
end Go.Proofs.YtddjkbpgaenpgaaGreat

