/- What Checkpoint answers and leaves; calls on a log that is none, or dead, or full. No condition. -/
import Derived.Test.YtddjkbpgaenpgaaGreatWlJ
section
namespace Go.Proofs.YtddjkbpgaenpgaaGreat
open Go.RowKit Go.Shelf

section
variable {w w' : World} {q l b f x : Nat} {V : WV} {rp : Option Addr} {L : LV}
theorem WlM.keep {X : Nat → Prop} (h : WlM w q l b f x V rp L) (hf : Frm X w w') (h0 : ¬ X q) (h1 : ¬ X l) (h2 : ¬ X b) (h3 : ¬ X f) (h4 : ¬ X x) (h5 : L.cs.length = 0 ∨ ∀ k, L.P k → ¬ X k) : WlM w' q l b f x V rp L :=
  ⟨h.blk.keepX hf h0, h.ln.keep hf h1 h2 h3 h4 h5, h.ne, h.np, h.ok⟩
theorem WlM.set6 (h : WlM w q l b f x V rp L) (d : Bool) : WlM (w.setCell ⟨q, 6, none⟩ (.bool d)) q l b f x { V with dead := d } rp L := by
  have gq : Frm (· = q) w (w.setCell ⟨q, 6, none⟩ (.bool d)) := (Frm.refl (· = q) w).setCell (fun _ => rfl) _
  exact ⟨h.blk.set6 d, h.ln.keep gq (fun e => h.ne.1 e.symm) (fun e => h.ne.2.1 e.symm) (fun e => h.ne.2.2.1 e.symm) (fun e => h.ne.2.2.2 e.symm) h.np, h.ne, h.np, ⟨h.ok.n2, h.ok.inn, h.ok.N2, h.ok.s1, h.ok.glt⟩⟩
end
/-- What a Checkpoint leaves. -/
def CkTo (q l b f x : Nat) (V : WV) (rp : Option Addr) (fin : RV × LV × Nat) (w : World) (e : Ending) (w' : World) : Prop :=
  e = .returned (.int .i64 (fin.2.2 : Nat)) ∧ Frm (WlX q l f x) w w' ∧
    (fin.2.2 = 0 → ∃ g, w.heap.size ≤ g ∧ WlR w' q l b f x g ⟨V.n, 1 - V.side, V.gen + 1, false⟩ fin.1 fin.2.1) ∧
    (fin.2.2 ≠ 0 → WlM w' q l b f x { V with dead := true } rp fin.2.1)
set_option maxRecDepth 100000 in
set_option maxHeartbeats 16000000 in
theorem wcheck_any (q l b f x : Nat) (V : WV) (rp : Option Addr) (L : LV) (t : List UInt8) (w : World) (h : WlM w q l b f x V rp L) (hd : V.dead = false) (hr : t.length ≤ V.room) (ha : L.acts ≤ 800000) (hP : L.cs.length = 0 ∨ ∀ k, L.P k → k < w.heap.size) (hg : V.gen + 1 < 4294967296) :
    Calls Tryz.prog 48 #[.pointer (some ⟨q, 0, none⟩), .string (bs t)] w (CkTo q l b f x V rp (anR L ((1 - V.side) * V.n) V.n (V.gen + 1) t) w) := by
  have hmf : ∀ (fn : Fn) (first cap : Array Value) (w : World), (Instr.makeFunc fn first cap).run Tryz.prog w = .ok (.func fn first cap) w := fun _ _ _ _ => rfl
  have hok := h.ok
  have hN : V.n ≤ 1024 := by have := hok.inn; have := hok.N2; omega
  have ht : t.length ≤ 1000000 := by unfold WV.room at hr; omega
  obtain ⟨fin, hfin⟩ : ∃ fin, anR L ((1 - V.side) * V.n) V.n (V.gen + 1) t = fin := ⟨_, rfl⟩
  have hls := (ls_an L ((1 - V.side) * V.n) V.n (V.gen + 1) t).1
  rw [hfin] at hls ⊢
  unfold CkTo
  -- the two variables
  obtain ⟨w1, hw1⟩ : ∃ w1, (w.alloc (.cells #[.pointer (some ⟨q, 0, none⟩)] 73)).alloc (.cells #[.string (bs t)] 9) = w1 := ⟨_, rfl⟩
  have b0 : Blk w1 w.heap.size 73 #[.pointer (some ⟨q, 0, none⟩)] := by rw [← hw1]; exact (Blk.alloc w _ _).old _
  have b1 : Blk w1 (w.heap.size + 1) 9 #[.string (bs t)] := by
    have := Blk.alloc (w.alloc (.cells #[.pointer (some ⟨q, 0, none⟩)] 73)) 9 #[.string (bs t)]
    rw [World.size_alloc, hw1] at this
    exact this
  have g1 : Frm (fun _ => False) w w1 := by rw [← hw1]; exact ((Frm.refl _ w).alloc _).alloc _
  have z1 : w1.heap.size = w.heap.size + 2 := by rw [← hw1]; simp
  have h1 := h.keepF g1
  have hM := Lib.hid (wmade_any q l V rp w1 h1.blk)
  have hT := wtakes_any q l V rp t w1 h1.blk hok.n2 (by omega)
  rw [if_neg (by omega)] at hT
  have hT := Lib.hid hT
  have k0 := b0.cell 0 rfl
  have k1 := b1.cell 0 rfl
  have k4 : w1.cell? ⟨q, 4, none⟩ = some (.int .u32 (V.gen : Nat)) := Blk.cell h1.blk 4 rfl
  have k6 : w1.cell? ⟨q, 6, none⟩ = some (.bool V.dead) := Blk.cell h1.blk 6 rfl
  rw [hd] at k6
  obtain ⟨gn, hgn⟩ : ∃ gn, V.gen = gn := ⟨_, rfl⟩
  have hq : ((gn : Int) == 4294967295) = false := by rw [beq_eq_false_iff_ne]; omega
  rw [hgn] at k4
  obtain ⟨w10, hw10⟩ : ∃ w10, w1.alloc (.cells #[.func (.func 103) #[] #[.pointer (some ⟨w.heap.size, 0, none⟩), .pointer (some ⟨w.heap.size + 1, 0, none⟩)]] 65) = w10 := ⟨_, rfl⟩
  have g10 : Frm (fun _ => False) w1 w10 := by rw [← hw10]; exact (Frm.refl _ w1).alloc _
  have z10 : w10.heap.size = w1.heap.size + 1 := by rw [← hw10]; simp
  have b10 : Blk w10 w1.heap.size 65 #[.func (.func 103) #[] #[.pointer (some ⟨w.heap.size, 0, none⟩), .pointer (some ⟨w.heap.size + 1, 0, none⟩)]] := by rw [← hw10]; exact Blk.alloc w1 _ _
  have b0 := b0.keep g10 (fun h => h)
  have b1 := b1.keep g10 (fun h => h)
  have h10 := h1.keepF g10
  have hql := h.qlt
  have hll := h.ln.lt
  have nX : ∀ k, w.heap.size ≤ k → ¬ WlX q l f x k := fun k hk hX => by
    rcases hX with rfl | hX
    · omega
    · exact notX (by omega) (by omega) (by omega) hX
  have hCH := change_any q (.slice (some ⟨w1.heap.size, 0, none⟩) 1 1) w10 (WlX q l f x) (fun c W' => c = fin.2.2 ∧ (fin.2.2 = 0 → ∃ g, w10.heap.size + 2 ≤ g ∧ WlM W' q l b f x { V with side := 1 - V.side, gen := V.gen + 1 } (some ⟨g, 0, none⟩) fin.2.1 ∧ RgM W' g l b f x fin.1 fin.2.1) ∧ (fin.2.2 ≠ 0 → WlM W' q l b f x V rp fin.2.1)) (fun k hk => nX k (by omega)) (by omega) (fun W gW hz => by
    have hbW := b10.keep gW (fun h => h)
    have hP5 := perform_any w1.heap.size [.func (.func 103) #[] #[.pointer (some ⟨w.heap.size, 0, none⟩), .pointer (some ⟨w.heap.size + 1, 0, none⟩)]]
      (fun k W' => if k = 0 then W' = W else AnTo q l b f x V rp (1 - V.side) (V.gen + 1) fin W (.returned (.int .i64 (fin.2.2 : Nat))) W' ∧ fin.2.2 = 0)
      (fun c W' => AnTo q l b f x V rp (1 - V.side) (V.gen + 1) fin W (.returned (.int .i64 (fin.2.2 : Nat))) W' ∧ c = fin.2.2) W (show 1 ≤ 100 by decide)
      rfl
      (fun k hk W' hW => by
        obtain rfl : k = 0 := by simp at hk; omega
        have hW : W' = W := hW
        subst hW
        exact hbW.cell 0 rfl)
      (fun k hk => by
        obtain rfl : k = 0 := by simp at hk; omega
        refine ⟨103, #[], _, _, rfl, .inl ⟨rfl, rfl⟩, fun xs W => by go_simp, fun W' hW => ?_⟩
        have hW : W' = W := hW
        subst hW
        have := check1_any w.heap.size (w.heap.size + 1) q l b f x V rp L t W' (h10.keepF gW) ((b0.keep gW (fun h => h)).cell 0 rfl) ((b1.keep gW (fun h => h)).cell 0 rfl) ha ht (hP.imp id fun u k hk => by have := u k hk; have := gW.size; omega) hg
        rw [hfin] at this
        refine this.mono fun e W2 hq => ?_
        obtain ⟨e1, e2⟩ := hq
        refine ⟨fin.2.2, e1, fun hc => ?_, fun hc => ⟨⟨rfl, e2⟩, rfl⟩⟩
        have hgo : AnTo q l b f x V rp (1 - V.side) (V.gen + 1) fin W' (.returned (.int .i64 (fin.2.2 : Nat))) W2 ∧ fin.2.2 = 0 := ⟨⟨rfl, e2⟩, hc⟩
        exact hgo)
    refine hP5.mono fun e W' hq => ?_
    obtain ⟨c, rfl, hc0, hc1⟩ := hq
    have hfinal : AnTo q l b f x V rp (1 - V.side) (V.gen + 1) fin W (.returned (.int .i64 (fin.2.2 : Nat))) W' ∧ c = fin.2.2 := by
      by_cases hc : c = 0
      · have h2 := hc0 hc
        have h2 : AnTo q l b f x V rp (1 - V.side) (V.gen + 1) fin W (.returned (.int .i64 (fin.2.2 : Nat))) W' ∧ fin.2.2 = 0 := h2
        exact ⟨h2.1, by rw [hc]; exact h2.2.symm⟩
      · exact hc1 hc
    obtain ⟨⟨_, gX, a1, a2⟩, hcf⟩ := hfinal
    have hbb : (∃ d, W'.cell? ⟨q, 6, none⟩ = some (.bool d)) ∧ W'.frozen? ⟨q, 6, none⟩ = false := by
      by_cases hc : fin.2.2 = 0
      · obtain ⟨g, _, hm, _⟩ := a1 hc
        exact ⟨⟨_, Blk.cell hm.blk 6 rfl⟩, Blk.free hm.blk 6⟩
      · have hm := a2 hc
        exact ⟨⟨_, Blk.cell hm.blk 6 rfl⟩, Blk.free hm.blk 6⟩
    exact ⟨c, rfl, gX, hbb.1, hbb.2, hcf, fun hc => by
      obtain ⟨g, e1, e2⟩ := a1 hc
      exact ⟨g, by omega, e2⟩, a2⟩)
  have HCH := Lib.hid hCH
  have HH := Lib.hid h
  have HK := Lib.hid (And.intro (g1.trans g10) (And.intro nX (And.intro hls (And.intro hP (And.intro hok (And.intro hd hgn))))))
  clear h hd hr ha hP hg hok hN ht hfin hls b0 b1 g1 z1 h1 hgn g10 z10 b10 h10 hql hll nX hCH
  go_enter Tryz.func48, Tryz.ntmps48
  go_wp2_with fail
  clear hw1
  refine hM.out.mono ?_
  rintro e wA ⟨rfl, rfl⟩
  go_wp2_with fail
  refine hT.out.mono ?_
  rintro e wA ⟨rfl, rfl⟩
  go_wp2_with fail
  clear hw10 k0 k1 k4 k6
  with_reducible refine HCH.out.mono ?_
  rintro e w11 ⟨c, w12, w13, rfl, hj, gX, hsz, gC, rfl⟩
  have H11 := Lib.hid (And.intro hj (And.intro gX (And.intro hsz gC)))
  clear hj gX hsz gC HCH
  go_wp2_with fail
  go_ret
  obtain ⟨⟨rfl, a1, a2⟩, gX, hsz, gC⟩ := H11.out
  obtain ⟨gw, nX, hls, hP, hok, hd, hgn⟩ := HK.out
  have hwsz := gw.size
  have hql := HH.out.qlt
  have hll := HH.out.ln.lt
  have hPn : fin.2.1.cs.length = 0 ∨ ∀ k, fin.2.1.P k → k < w.heap.size := by rw [hls.cs, hls.P]; exact hP
  have hnp : fin.2.1.cs.length = 0 ∨ ∀ k, fin.2.1.P k → ¬ k = q := by rw [hls.cs, hls.P]; exact HH.out.np
  have gq : Frm (· = q) w13 (w13.setCell ⟨q, 6, none⟩ (.bool (errB fin.2.2))) := (Frm.refl (· = q) w13).setCell (fun _ => rfl) _
  have hne := HH.out.ne
  refine ⟨rfl, ?_, fun hc => ?_, fun hc => ?_⟩
  · exact (((gw.mono fun _ _ h => h.elim : Frm (WlX q l f x) w w10).trans gX).next gC (fun k hk e => by omega)).next gq (fun k _ e => .inl e)
  · obtain ⟨g, hg, hm, hr⟩ := a1 hc
    have hgl := hr.lt
    have hm13 := hm.keep gC (by omega) (by omega) (by omega) (by omega) (by omega) (hPn.imp id fun u k hk => by have := u k hk; omega)
    have hr13 := hr.keep gC (by omega) (by omega) (by omega) (by omega) (by omega) (hPn.imp id fun u k hk => by have := u k hk; omega)
    have hr14 := hr13.keep gq (by omega) (fun h => hne.1 h.symm) (fun h => hne.2.1 h.symm) (fun h => hne.2.2.1 h.symm) (fun h => hne.2.2.2 h.symm) hnp
    have hm14 := hm13.set6 (errB fin.2.2)
    have hE : errB fin.2.2 = false := by rw [hc]; rfl
    rw [hE] at hm14 hr14 ⊢
    exact ⟨g, by omega, hm14, hr14, by omega⟩
  · have hm := a2 hc
    have hm13 := hm.keep gC (by omega) (by omega) (by omega) (by omega) (by omega) (hPn.imp id fun u k hk => by have := u k hk; omega)
    have hm14 := hm13.set6 (errB fin.2.2)
    have hE : errB fin.2.2 = true := by unfold errB; simpa using hc
    rw [hE] at hm14 ⊢
    exact hm14
end Go.Proofs.YtddjkbpgaenpgaaGreat
end
section
namespace Go.Proofs.YtddjkbpgaenpgaaGreat
open Go.RowKit Go.Shelf

theorem two_alloc (w : World) (a : Value) (b : Value) (ta tb : TypeId) : ∃ w1, (w.alloc (.cells #[a] ta)).alloc (.cells #[b] tb) = w1 ∧ Blk w1 w.heap.size ta #[a] ∧ Blk w1 (w.heap.size + 1) tb #[b] ∧ Frm (fun _ => False) w w1 := by
  refine ⟨_, rfl, (Blk.alloc w _ _).old _, ?_, ((Frm.refl _ w).alloc _).alloc _⟩
  have := Blk.alloc (w.alloc (.cells #[a] ta)) tb #[b]
  rwa [World.size_alloc] at this
theorem NoWl.keepF {p : Value} {w w' : World} (h : NoWl p w) (g : Frm (fun _ => False) w w') : NoWl p w' := h.imp id fun ⟨b, e, c⟩ => ⟨b, e, g.cellF c⟩
set_option maxRecDepth 100000 in
set_option maxHeartbeats 4000000 in
theorem wcommit_no (p : Option Addr) (s : ByteArray) (w : World) (h : NoWl (.pointer p) w) :
    Calls Tryz.prog 46 #[.pointer p, .string s] w fun e w' => e = .returned (.int .i64 1) ∧ Frm (fun _ => False) w w' := by
  obtain ⟨w1, hw1, b0, b1, g1⟩ := two_alloc w (.pointer p) (.string s) 73 9
  have HM := Lib.hid (wmade_no (.pointer p) w1 (h.keepF g1))
  have k0 := b0.cell 0 rfl
  have G1 := Lib.hid g1
  clear h b0 b1 g1
  go_enter Tryz.func46, Tryz.ntmps46
  go_wp2_with fail
  clear hw1
  refine HM.out.mono ?_
  rintro e w2 ⟨rfl, rfl⟩
  go_wp2_with fail
  go_ret
  exact ⟨rfl, G1.out⟩
set_option maxRecDepth 100000 in
set_option maxHeartbeats 4000000 in
theorem wcommit_off (q l : Nat) (V : WV) (rp : Option Addr) (s : ByteArray) (w : World) (h : Wlk w q l V rp) (hw : wrB V rp = false) :
    Calls Tryz.prog 46 #[.pointer (some ⟨q, 0, none⟩), .string s] w fun e w' => e = .returned (.int .i64 17) ∧ Frm (fun _ => False) w w' := by
  obtain ⟨w1, hw1, b0, b1, g1⟩ := two_alloc w (.pointer (some ⟨q, 0, none⟩)) (.string s) 73 9
  have HM := Lib.hid (wmade_any q l V rp w1 (h.keepF g1))
  have hWr := wwrit_any q l V rp w1 (h.keepF g1)
  rw [hw] at hWr
  have hWr := Lib.hid hWr
  have k0 := b0.cell 0 rfl
  have G1 := Lib.hid g1
  clear h b0 b1 g1 hw
  go_enter Tryz.func46, Tryz.ntmps46
  go_wp2_with fail
  clear hw1
  refine HM.out.mono ?_
  rintro e w2 ⟨rfl, rfl⟩
  go_wp2_with fail
  refine hWr.out.mono ?_
  rintro e w2 ⟨rfl, rfl⟩
  go_wp2_with fail
  go_ret
  exact ⟨rfl, G1.out⟩
set_option maxRecDepth 100000 in
set_option maxHeartbeats 4000000 in
theorem wcommit_full (q l b f x g : Nat) (V : WV) (R : RV) (L : LV) (t : List UInt8) (w : World) (h : WlR w q l b f x g V R L) (hd : V.dead = false) (hf : R.left < needs t.length) (ht : t.length ≤ 1000000) :
    Calls Tryz.prog 46 #[.pointer (some ⟨q, 0, none⟩), .string (bs t)] w fun e w' => e = .returned (.int .i64 7) ∧ Frm (fun _ => False) w w' := by
  obtain ⟨w1, hw1, b0, b1, g1⟩ := two_alloc w (.pointer (some ⟨q, 0, none⟩)) (.string (bs t)) 73 9
  have HM := Lib.hid (wmade_any q l V (some ⟨g, 0, none⟩) w1 (h.wl.blk.keepF g1))
  have hWr := wwrit_any q l V (some ⟨g, 0, none⟩) w1 (h.wl.blk.keepF g1)
  rw [show wrB V (some ⟨g, 0, none⟩) = true by unfold wrB; rw [hd]; rfl] at hWr
  have hWr := Lib.hid hWr
  have hFt := wfits_any q l b f x g V R L (t.length : Nat) w1 (h.wl.blk.keepF g1) (h.rg.keepF g1) hd (by unfold Z64; omega)
  rw [Int.toNat_natCast, decide_eq_false (by omega)] at hFt
  have hFt := Lib.hid hFt
  have k0 := b0.cell 0 rfl
  have k1 := b1.cell 0 rfl
  have G1 := Lib.hid g1
  clear h b0 b1 g1 hd hf
  go_enter Tryz.func46, Tryz.ntmps46
  go_wp2_with fail
  clear hw1
  refine HM.out.mono ?_
  rintro e w2 ⟨rfl, rfl⟩
  go_wp2_with fail
  refine hWr.out.mono ?_
  rintro e w2 ⟨rfl, rfl⟩
  go_wp2_with fail
  refine hFt.out.mono ?_
  rintro e w2 ⟨rfl, g2⟩
  have G2 := Lib.hid (G1.out.trans g2)
  clear g2
  go_wp2_with fail
  go_ret
  exact ⟨rfl, G2.out⟩
set_option maxRecDepth 100000 in
set_option maxHeartbeats 4000000 in
theorem wcheck_no (p : Option Addr) (s : ByteArray) (w : World) (h : NoWl (.pointer p) w) :
    Calls Tryz.prog 48 #[.pointer p, .string s] w fun e w' => e = .returned (.int .i64 1) ∧ Frm (fun _ => False) w w' := by
  obtain ⟨w1, hw1, b0, b1, g1⟩ := two_alloc w (.pointer p) (.string s) 73 9
  have HM := Lib.hid (wmade_no (.pointer p) w1 (h.keepF g1))
  have k0 := b0.cell 0 rfl
  have G1 := Lib.hid g1
  clear h b0 b1 g1
  go_enter Tryz.func48, Tryz.ntmps48
  go_wp2_with fail
  clear hw1
  refine HM.out.mono ?_
  rintro e w2 ⟨rfl, rfl⟩
  go_wp2_with fail
  go_ret
  exact ⟨rfl, G1.out⟩
set_option maxRecDepth 100000 in
set_option maxHeartbeats 4000000 in
theorem wcheck_dead (q l : Nat) (V : WV) (rp : Option Addr) (s : ByteArray) (w : World) (h : Wlk w q l V rp) (hd : V.dead = true) :
    Calls Tryz.prog 48 #[.pointer (some ⟨q, 0, none⟩), .string s] w fun e w' => e = .returned (.int .i64 17) ∧ Frm (fun _ => False) w w' := by
  obtain ⟨w1, hw1, b0, b1, g1⟩ := two_alloc w (.pointer (some ⟨q, 0, none⟩)) (.string s) 73 9
  have HM := Lib.hid (wmade_any q l V rp w1 (h.keepF g1))
  have k0 := b0.cell 0 rfl
  have k6 : w1.cell? ⟨q, 6, none⟩ = some (.bool V.dead) := Blk.cell (h.keepF g1) 6 rfl
  rw [hd] at k6
  have G1 := Lib.hid g1
  clear h b0 b1 g1 hd
  go_enter Tryz.func48, Tryz.ntmps48
  go_wp2_with fail
  clear hw1
  refine HM.out.mono ?_
  rintro e w2 ⟨rfl, rfl⟩
  go_wp2_with fail
  go_ret
  exact ⟨rfl, G1.out⟩
set_option maxRecDepth 100000 in
set_option maxHeartbeats 4000000 in
theorem wcheck_full (q l b f x : Nat) (V : WV) (rp : Option Addr) (L : LV) (t : List UInt8) (w : World) (h : WlM w q l b f x V rp L) (hd : V.dead = false) (hf : V.room < t.length) :
    Calls Tryz.prog 48 #[.pointer (some ⟨q, 0, none⟩), .string (bs t)] w fun e w' => e = .returned (.int .i64 7) ∧ Frm (fun _ => False) w w' := by
  have hok := h.ok
  obtain ⟨w1, hw1, b0, b1, g1⟩ := two_alloc w (.pointer (some ⟨q, 0, none⟩)) (.string (bs t)) 73 9
  have HM := Lib.hid (wmade_any q l V rp w1 (h.blk.keepF g1))
  have hT := wtakes_any q l V rp t w1 (h.blk.keepF g1) hok.n2 (by have := hok.inn; have := hok.N2; omega)
  rw [if_pos hf] at hT
  have hT := Lib.hid hT
  have k0 := b0.cell 0 rfl
  have k1 := b1.cell 0 rfl
  have k6 : w1.cell? ⟨q, 6, none⟩ = some (.bool V.dead) := Blk.cell (h.blk.keepF g1) 6 rfl
  rw [hd] at k6
  have G1 := Lib.hid g1
  clear h b0 b1 g1 hd hok hf
  go_enter Tryz.func48, Tryz.ntmps48
  go_wp2_with fail
  clear hw1
  refine HM.out.mono ?_
  rintro e w2 ⟨rfl, rfl⟩
  go_wp2_with fail
  refine hT.out.mono ?_
  rintro e w2 ⟨rfl, rfl⟩
  go_wp2_with fail
  go_ret
  exact ⟨rfl, G1.out⟩
set_option maxRecDepth 100000 in
set_option maxHeartbeats 2000000 in
/-- A log that has nothing yet. -/
theorem wover_any (l b f x : Nat) (L : LV) (w : World) (h : LnM w l b f x L) :
    Calls Tryz.prog 89 #[.pointer (some ⟨l, 0, none⟩)] w fun e w' => e = .returned (.tuple #[.pointer (some ⟨w.heap.size, 0, none⟩), .int .i64 0]) ∧ Wlk w' w.heap.size l ⟨L.D.n / 4, 0, 0, false⟩ none ∧ Frm (fun _ => False) w w' ∧ w'.heap.size = w.heap.size + 1 := by
  have HD := Lib.hid (ldev_any l b f x L w h)
  have HB := Lib.hid (blocks_any b f x L.D w h.dev)
  have hN := h.dev.ok.hi
  have hE := rdev_eqn
  obtain ⟨N, hNN⟩ : ∃ N, L.D.n = N := ⟨_, rfl⟩
  rw [hNN] at HB hN ⊢
  have hdiv : (N : Int).tdiv 4 = ((N / 4 : Nat) : Int) := by rw [Int.tdiv_eq_ediv_of_nonneg (by omega)]; omega
  have hw4 : IntKind.i64.wrap ((N / 4 : Nat) : Int) = ((N / 4 : Nat) : Int) := IntWalk.i64_in _ (by omega)
  obtain ⟨m, hm⟩ : ∃ m, N / 4 = m := ⟨_, rfl⟩
  rw [hm] at hdiv hw4 ⊢
  clear h hNN hm hN
  go_enter Tryz.func89, Tryz.ntmps89
  go_wp2_with fail
  refine HD.out.mono ?_
  rintro e w2 ⟨rfl, rfl⟩
  go_wp2_with fail
  refine HB.out.mono ?_
  rintro e w2 ⟨rfl, rfl⟩
  go_wp2_with fail
  go_ret2
  refine ⟨rfl, ?_, ?_, ?_⟩
  · exact Blk.alloc w 91 #[.pointer (some ⟨w.heap.size, 0, none⟩), .pointer (some ⟨l, 0, none⟩), .int .i64 (m : Nat), .int .i64 0, .int .u32 0, .pointer none, .bool false]
  · exact (Frm.refl _ w).alloc _
  · exact World.size_alloc _ _
theorem wover_no (p : Value) (w : World) (h : NoLn p w) :
    Calls Tryz.prog 89 #[p] w fun e w' => e = .returned (.tuple #[.pointer none, .int .i64 1]) ∧ w = w' := by
  have HD := Lib.hid (ldev_no p w h)
  clear h
  go_enter Tryz.func89, Tryz.ntmps89
  go_wp2_with fail
  refine HD.out.mono ?_
  rintro e w2 ⟨rfl, rfl⟩
  go_wp2_with fail
  go_ret2
  exact ⟨rfl, rfl⟩
end Go.Proofs.YtddjkbpgaenpgaaGreat
end
