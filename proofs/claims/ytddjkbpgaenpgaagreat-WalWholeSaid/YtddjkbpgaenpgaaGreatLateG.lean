/- A life of WalWhole: what holds between its acts, and behind the one that is cut. No condition. -/
import Derived.Test.YtddjkbpgaenpgaaGreatWlV
import Derived.Test.YtddjkbpgaenpgaaGreatLateF
section
namespace Go.Proofs.YtddjkbpgaenpgaaGreat
open Go.RowKit Go.Shelf

/-- Where all lies: the story at z, the log at q, its region at r0, its line at l, its device at b, with f and x; the choices lie below K. -/
structure Env (w0 : World) (z q r0 l b f x K : Nat) (L0 : LV) : Prop where
  zlt : z < w0.heap.size
  nz : z ≠ q ∧ z ≠ l ∧ z ≠ b ∧ z ≠ f ∧ z ≠ x ∧ r0 ≠ z
  np : L0.cs.length = 0 ∨ ∀ k, L0.P k → k ≠ z ∧ k < K
def Zg (z q g l f x : Nat) (k : Nat) : Prop := k = z ∨ WgX q g l f x k
def Zk (z q l f x : Nat) (k : Nat) : Prop := k = z ∨ WlX q l f x k
/-- The blocks that a life changes, of those that it found; r0 is the region it began with. -/
def Yx (z q r0 l f x : Nat) (k : Nat) : Prop := k = z ∨ k = r0 ∨ WlX q l f x k
def Zl (z l f x : Nat) (k : Nat) : Prop := k = z ∨ LnX l f x k
/-- While the line lives: the groups sure are told, all is firm. -/
def LvA (w0 : World) (z q r0 l b f x K g0 : Nat) (L0 : LV) (j : Nat) (W : World) : Prop :=
  ∃ (g : Nat) (R : RV) (L : LV) (s gn : Nat) (sure : List (List UInt8)), WlR W q l b f x g ⟨128, s, gn, false⟩ R L ∧ Cm 128 L R s gn sure ∧ Ls L0 L (600 + 1000 * j) ∧ StoM W z sure none (Zg z q g l f x) ∧ gn ≤ g0 + 1 + j ∧ nb sure ≤ 35 + 6 * j ∧ sure.length ≤ j + 1 ∧ Frm (Yx z q r0 l f x) w0 W ∧ (g = r0 ∨ w0.heap.size ≤ g) ∧ K ≤ W.heap.size
/-- Behind it: what is told is sure, or what may be. -/
def LvD (w0 : World) (z q r0 l b f x K g0 : Nat) (L0 : LV) (W : World) : Prop :=
  ∃ (L : LV) (sure : List (List UInt8)) (may : Option (List (List UInt8))) (s gn : Nat) (gs : List (List UInt8)), LnM W l b f x L ∧ Rest 128 L.D s gn gs ∧ (gs = sure ∨ may = some gs) ∧ gn ≤ g0 + 13 ∧ Ls L0 L 14000 ∧ StoM W z sure may (Zl z l f x) ∧ Frm (Yx z q r0 l f x) w0 W ∧ K ≤ W.heap.size
theorem Zl_g {z q g l f x k : Nat} (h : Zl z l f x k) : Zg z q g l f x k := h.imp id fun h => .inr (.inr h)
theorem Zl_k {z q l f x k : Nat} (h : Zl z l f x k) : Zk z q l f x k := h.imp id fun h => .inr h
section
variable {w0 W W' : World} {z q r0 l b f x K g0 : Nat} {L0 : LV} {j : Nat}
theorem LvA.done (h : LvA w0 z q r0 l b f x K g0 L0 j W) (hj : j ≤ 12) : LvD w0 z q r0 l b f x K g0 L0 W := by
  obtain ⟨g, R, L, s, gn, sure, h1, h2, h3, h4, h5, h6, _, h7, h8, h9⟩ := h
  exact ⟨L, sure, none, s, gn, sure, h1.wl.ln, h2.rest, .inl rfl, by omega, h3.mono (by omega), h4.zone (fun k _ h => Zl_g h), h7, h9⟩
/-- A block of the call's own is made. -/
theorem LvA.keepF (h : LvA w0 z q r0 l b f x K g0 L0 j W) (hf : Frm (fun _ => False) W W') : LvA w0 z q r0 l b f x K g0 L0 j W' := by
  obtain ⟨g, R, L, s, gn, sure, h1, h2, h3, h4, h5, h6, h6', h7, h8, h9⟩ := h
  exact ⟨g, R, L, s, gn, sure, h1.keepF hf, h2, h3, h4.keepF hf, h5, h6, h6', h7.trans (hf.mono fun _ _ h => h.elim), h8, Nat.le_trans h9 hf.size⟩
/-- The story is written. -/
theorem WlR.story {g : Nat} {V : WV} {R : RV} {L : LV} (hE : Env w0 z q r0 l b f x K L0) (h : WlR W q l b f x g V R L) (hg : g ≠ z) (hP : L.P = L0.P) (hc : L.cs = L0.cs) (hf : Frm (· = z) W W') : WlR W' q l b f x g V R L := by
  have hn : L.cs.length = 0 ∨ ∀ k, L.P k → ¬ k = z := by rw [hP, hc]; exact hE.np.imp id fun u k hk => (u k hk).1
  have hz := hE.nz
  exact ⟨h.wl.keep hf (fun e => hz.1 e.symm) (fun e => hz.2.1 e.symm) (fun e => hz.2.2.1 e.symm) (fun e => hz.2.2.2.1 e.symm) (fun e => hz.2.2.2.2.1 e.symm) hn, h.rg.keep hf hg (fun e => hz.2.1 e.symm) (fun e => hz.2.2.1 e.symm) (fun e => hz.2.2.2.1 e.symm) (fun e => hz.2.2.2.2.1 e.symm) hn, h.gq⟩
theorem LnM.story {L : LV} (hE : Env w0 z q r0 l b f x K L0) (h : LnM W l b f x L) (hP : L.P = L0.P) (hc : L.cs = L0.cs) (hf : Frm (· = z) W W') : LnM W' l b f x L := by
  have hn : L.cs.length = 0 ∨ ∀ k, L.P k → ¬ k = z := by rw [hP, hc]; exact hE.np.imp id fun u k hk => (u k hk).1
  have hz := hE.nz
  exact h.keep hf (fun e => hz.2.1 e.symm) (fun e => hz.2.2.1 e.symm) (fun e => hz.2.2.2.1 e.symm) (fun e => hz.2.2.2.2.1 e.symm) hn
end
/-- Ahead of did: an act was done, and answered c; its groups l lie at v. -/
def Bth (w0 : World) (z q r0 l b f x K g0 : Nat) (L0 : LV) (j : Nat) (ls : List (List UInt8)) (c : Nat) (v : Value) (W : World) : Prop :=
  OwnS W v ls ∧ Frm (Yx z q r0 l f x) w0 W ∧ K ≤ W.heap.size ∧ ((c = 0 ∧ ∃ (g : Nat) (R : RV) (L : LV) (s gn : Nat) (old : List (List UInt8)), WlR W q l b f x g ⟨128, s, gn, false⟩ R L ∧ Cm 128 L R s gn ls ∧ Ls L0 L (600 + 1000 * j) ∧ StoM W z old none (Zg z q g l f x) ∧ (∀ k, v.ownBlock = some k → ¬ Zg z q g l f x k) ∧ gn ≤ g0 + 1 + j ∧ nb ls ≤ 35 + 6 * j ∧ ls.length ≤ j + 1 ∧ (g = r0 ∨ w0.heap.size ≤ g)) ∨
    (c = 8 ∧ ∃ (L : LV) (s gn : Nat) (old gs : List (List UInt8)), LnM W l b f x L ∧ Rest 128 L.D s gn gs ∧ (gs = old ∨ gs = ls) ∧ Ls L0 L 14000 ∧ StoM W z old none (Zl z l f x) ∧ (∀ k, v.ownBlock = some k → ¬ Zl z l f x k) ∧ gn ≤ g0 + 13 ∧ l < W.heap.size))
theorem Env.gz {w0 : World} {z q r0 l b f x K g : Nat} {L0 : LV} (hE : Env w0 z q r0 l b f x K L0) (h : g = r0 ∨ w0.heap.size ≤ g) : g ≠ z := by
  have := hE.zlt
  have := hE.nz
  omega
theorem bth_did {w0 W : World} {z q r0 l b f x K g0 : Nat} {L0 : LV} {j c : Nat} {ls : List (List UInt8)} {v : Value} (hE : Env w0 z q r0 l b f x K L0) (h : Bth w0 z q r0 l b f x K g0 L0 j ls c v W) :
    Calls Tryz.prog 99 #[.pointer (some ⟨z, 0, none⟩), .int .i64 (c : Nat), v] W fun e W' => ∃ bq : Bool, e = .returned (.bool bq) ∧ ((bq = true ∧ LvA w0 z q r0 l b f x K g0 L0 j W') ∨ (bq = false ∧ LvD w0 z q r0 l b f x K g0 L0 W')) := by
  obtain ⟨ho, hw, hK, ⟨rfl, g, R, L, s, gn, old, h1, h2, h3, h4, h5, h6, h7, h7', h8⟩ | ⟨rfl, L, s, gn, old, gs, h1, h2, h2', h3, h4, h5, h6, h7⟩⟩ := h
  · refine (did_ok z v ls old none (Zg z q g l f x) W h4 (.inl rfl) ho h5).mono fun e W' ⟨e1, e2, e3⟩ => ⟨true, e1, .inl ⟨rfl, g, R, L, s, gn, ls, h1.story hE (hE.gz h8) h3.P h3.cs e3, h2, h3, e2, h6, h7, h7', ?_, h8, Nat.le_trans hK e3.size⟩⟩
    exact hw.next e3 fun k hk e => .inl e
  · have hlt := h1.lt
    refine (did_err z 8 v ls old (Zl z l f x) W h4 (by decide) (.inl rfl) (fun k hk hX => ?_) ho h5).mono fun e W' ⟨e1, e2, e3⟩ => ⟨false, e1, .inr ⟨rfl, L, old, some ls, s, gn, gs, h1.story hE h3.P h3.cs e3, h2, ?_, h6, h3, e2, ?_, Nat.le_trans hK e3.size⟩⟩
    · have := h4.lt
      unfold Zl LnX at hX
      omega
    · rcases h2' with rfl | rfl
      · exact .inl rfl
      · exact .inr rfl
    · exact hw.next e3 fun k hk e => .inl e
/-- Behind a Checkpoint: as the dump was, or will be, put down. -/
theorem ck_bth {w0 W0 W1 : World} {z q r0 l b f x K g0 : Nat} {L0 L : LV} {j s gn : Nat} {rp : Option Addr} {t : List UInt8} {sure : List (List UInt8)} {e : Ending} (hE : Env w0 z q r0 l b f x K L0)
    (hL : Ls L0 L (300 + 1000 * j)) (hj : j ≤ 12) (hR : Rest 128 L.D s gn sure) (hd : L.down = false) (ht : t.length ≤ 2000) (hgn : gn ≤ g0 + j) (hgl : g0 ≤ 1000000) (hS : StoM W0 z sure none (Zk z q l f x)) (hw : Frm (Yx z q r0 l f x) w0 W0) (hK : K ≤ W0.heap.size)
    (hT : CkTo q l b f x ⟨128, s, gn, false⟩ rp (anR L ((1 - s) * 128) 128 (gn + 1) t) W0 e W1) : ∃ c : Nat, e = .returned (.int .i64 (c : Nat)) ∧ Frm (WlX q l f x) W0 W1 ∧
      ∀ W v, Frm (fun _ => False) W1 W → OwnS W v [t] → (∀ k, v.ownBlock = some k → (k < W0.heap.size ∨ W1.heap.size ≤ k) ∧ ¬ Zk z q l f x k) → Bth w0 z q r0 l b f x K g0 L0 j [t] c v W := by
  have hnd : needs t.length + 1 ≤ 128 := by unfold needs; omega
  have hls := (ls_an L ((1 - s) * 128) 128 (gn + 1) t).1
  obtain ⟨e1, e2, e3, e4⟩ := hT
  obtain ⟨fin, hfin⟩ : ∃ fin, anR L ((1 - s) * 128) 128 (gn + 1) t = fin := ⟨_, rfl⟩
  have hck := hR.ck hd (by omega) hnd
  rw [hfin] at hls hck e1 e3 e4
  have hlw : Ls L0 fin.2.1 (600 + 1000 * j) := (hL.trans hls).mono (by omega)
  have hzlt := hS.lt
  have nz : ¬ WlX q l f x z := fun hX => by
    have := hE.nz
    unfold WlX LnX at hX
    omega
  refine ⟨fin.2.2, e1, e2, fun W v gW hov hvn => ?_⟩
  have hw1 : Frm (Yx z q r0 l f x) w0 W := (hw.next e2 fun k hk hX => .inr (.inr hX)).trans (gW.mono fun _ _ h => h.elim)
  refine ⟨hov, hw1, Nat.le_trans hK (Nat.le_trans e2.size gW.size), ?_⟩
  rcases hck with ⟨c1, c2⟩ | ⟨c1, c2, c3⟩
  · left
    obtain ⟨g, hg, hWR⟩ := e3 c1
    have hgl1 := hWR.lt
    refine ⟨c1, g, fin.1, fin.2.1, 1 - s, gn + 1, sure, hWR.keepF gW, c2, hlw, ?_, fun k hk hX => ?_, by omega, ?_, by simp, .inr (Nat.le_trans hw.size hg)⟩
    · have hX : ∀ k, k < W0.heap.size → Zg z q g l f x k → Zk z q l f x k := fun k hk hX => by
        unfold Zg WgX RgX at hX
        unfold Zk WlX
        rcases hX with h | h | h | h
        · exact .inl h
        · exact .inr (.inl h)
        · omega
        · exact .inr (.inr h)
      have h1 : StoM W0 z sure none (Zg z q g l f x) := hS.zone hX
      exact (h1.keep e2 (fun k hX => by
        rcases hX with h | h
        · exact .inr (.inl h)
        · exact .inr (.inr (.inr h))) nz).keepF gW
    · obtain ⟨q1, q2⟩ := hvn k hk
      apply q2
      unfold Zg WgX RgX at hX
      unfold Zk WlX
      rcases hX with h | h | h | h
      · exact .inl h
      · exact .inr (.inl h)
      · omega
      · exact .inr (.inr h)
    · rw [nb_one]; unfold needs; omega
  · right
    have hM := e4 (by rw [c1]; decide)
    have hln := hM.ln.lt
    have hso : StoM W z sure none (Zl z l f x) := ((hS.keep e2 (fun k hX => .inr hX) nz).keepF gW).zone (fun k _ h => Zl_k h)
    have hsep : ∀ k, v.ownBlock = some k → ¬ Zl z l f x k := fun k hk hX => (hvn k hk).2 (Zl_k hX)
    have hl14 : Ls L0 fin.2.1 14000 := hlw.mono (by omega)
    have hlW : l < W.heap.size := Nat.lt_of_lt_of_le hln.1 gW.size
    rcases c3 with c3 | c3
    · exact ⟨c1, fin.2.1, s, gn, sure, sure, hM.ln.keepF gW, c3, .inl rfl, hl14, hso, hsep, by omega, hlW⟩
    · exact ⟨c1, fin.2.1, 1 - s, gn + 1, sure, [t], hM.ln.keepF gW, c3, .inr rfl, hl14, hso, hsep, by omega, hlW⟩
/-- Behind a Commit. -/
theorem cm_bth {w0 W0 W1 : World} {z q r0 l b f x K g0 g : Nat} {L0 L : LV} {R : RV} {j s gn : Nat} {t : List UInt8} {sure : List (List UInt8)} {e : Ending} (hE : Env w0 z q r0 l b f x K L0)
    (hL : Ls L0 L (600 + 1000 * j)) (hj : j ≤ 10) (hC : Cm 128 L R s gn sure) (hfit : needs t.length ≤ R.left) (ht : t.length ≤ 300) (hgn : gn ≤ g0 + 1 + j) (hnb : nb sure ≤ 35 + 6 * j) (hsl : sure.length ≤ j + 1) (hS : StoM W0 z sure none (Zg z q g l f x)) (hw : Frm (Yx z q r0 l f x) w0 W0) (hK : K ≤ W0.heap.size) (hg : g = r0 ∨ w0.heap.size ≤ g)
    (hT : CmTo q l b f x g ⟨128, s, gn, false⟩ (cmR R L t) W0 e W1) : ∃ c : Nat, e = .returned (.int .i64 (c : Nat)) ∧ Frm (WgX q g l f x) W0 W1 ∧
      ∀ W v, Frm (fun _ => False) W1 W → OwnS W v (sure ++ [t]) → (∀ k, v.ownBlock = some k → W1.heap.size ≤ k) → Bth w0 z q r0 l b f x K g0 L0 (j + 1) (sure ++ [t]) c v W := by
  have hnd : needs t.length ≤ 6 := by unfold needs; omega
  have hls := (ls_cm R L t).1
  rw [hC.rn] at hls
  obtain ⟨e1, e2, e3⟩ := hT
  obtain ⟨fin, hfin⟩ : ∃ fin, cmR R L t = fin := ⟨_, rfl⟩
  have hcm := hC.cm hfit
  rw [hfin] at hls hcm e1 e3
  have hlw : Ls L0 fin.2.1 (600 + 1000 * (j + 1)) := (hL.trans hls).mono (by omega)
  have hgz := hE.gz hg
  have hzlt := hS.lt
  have hlt3 := e3.lt
  have hbl := e3.wl.ln.lt
  have nz : ¬ WgX q g l f x z := fun hX => by
    have := hE.nz
    unfold WgX RgX LnX at hX
    omega
  refine ⟨fin.2.2, e1, e2, fun W v gW hov hvn => ?_⟩
  have hw1 : Frm (Yx z q r0 l f x) w0 W := (hw.next e2 fun k hk hX => by
    rcases hX with h | h | h
    · exact .inr (.inr (.inl h))
    · exact .inr (.inl (by rcases hg with e | e <;> omega))
    · exact .inr (.inr (.inr h))).trans (gW.mono fun _ _ h => h.elim)
  have hvZ : ∀ k, v.ownBlock = some k → ¬ Zg z q g l f x k := fun k hk hX => by
    have h1 := hvn k hk
    have h2 := e2.size
    unfold Zg WgX RgX LnX at hX
    omega
  have hso := (hS.keep e2 (fun k hX => .inr hX) nz).keepF gW
  refine ⟨hov, hw1, Nat.le_trans hK (Nat.le_trans e2.size gW.size), ?_⟩
  rcases hcm with ⟨c1, c2⟩ | ⟨c1, c2, c3⟩
  · left
    rw [c1] at e3
    have e3 : WlR W1 q l b f x g ⟨128, s, gn, false⟩ fin.1 fin.2.1 := e3
    refine ⟨c1, g, fin.1, fin.2.1, s, gn, sure, e3.keepF gW, c2, hlw, hso, hvZ, by omega, ?_, by rw [List.length_append]; simp; omega, hg⟩
    rw [nb_append, nb_one]; omega
  · right
    have hl14 : Ls L0 fin.2.1 14000 := hlw.mono (by omega)
    have hso2 : StoM W z sure none (Zl z l f x) := hso.zone (fun k _ h => Zl_g h)
    have hsep : ∀ k, v.ownBlock = some k → ¬ Zl z l f x k := fun k hk hX => hvZ k hk (Zl_g hX)
    have hlW : l < W.heap.size := Nat.lt_of_lt_of_le hbl.1 gW.size
    rcases c3 with c3 | c3
    · exact ⟨c1, fin.2.1, s, gn, sure, sure, e3.wl.ln.keepF gW, c3, .inl rfl, hl14, hso2, hsep, by omega, hlW⟩
    · exact ⟨c1, fin.2.1, s, gn, sure, sure ++ [t], e3.wl.ln.keepF gW, c3, .inr rfl, hl14, hso2, hsep, by omega, hlW⟩
end Go.Proofs.YtddjkbpgaenpgaaGreat
end
section
namespace Go.Proofs.YtddjkbpgaenpgaaGreat
open Go.RowKit

def pickN (ops : List Oper) : List Nat → Option (List (Nat × Oper))
  | [] => some []
  | k :: ks => match ops[k]?, pickN ops ks with
    | some o, some l => some ((k, o) :: l)
    | _, _ => none
section
variable {P : Program} {ops : Array Oper} {Q : Exit → Act → World → Prop} {md : Region.Mode} {S : World → Prop}
/-- The operations that read, one behind the other. -/
def SeqO (P : Program) (ops : Array Oper) (S : World → Prop) (val : Nat → Value) : Act → List (Nat × Oper) → Prop
  | _, [] => True
  | a, (k, o) :: ks => Region.wanted o (yielded ops a.tmps) = true ∧ (∀ W, S W → (execOp a.eval o).run P W = .ok (.value (val k)) W) ∧ SeqO P ops S val (a.put o.dst (val k)) ks
def aP (val : Nat → Value) : Act → List (Nat × Oper) → Act
  | a, [] => a
  | a, (k, o) :: ks => aP val (a.put o.dst (val k)) ks
theorem seqO_R {val : Nat → Value} {os' : List Oper} (hos' : ops = os'.toArray) (hsel : ∀ (j : Nat) (o : Oper) cs b, ops[j]? = some o → o.op ≠ .select cs b) : ∀ (L : List Nat) (os : List (Nat × Oper)) (a : Act), pickN os' L = some os → SeqO P ops S val a os → SeqR P ops S val a L ∧ aL ops val a L = aP val a os := by
  intro L
  induction L with
  | nil =>
    intro os a h _
    cases h
    exact ⟨trivial, rfl⟩
  | cons k L ih =>
    intro os a h hs
    unfold pickN at h
    split at h
    · rename_i o l ho hl
      cases h
      obtain ⟨h1, h2, h3⟩ := hs
      have ho' : ops[k]? = some o := by subst hos'; simpa using ho
      have hd : dstOf ops k = o.dst := by simp [dstOf, ho']
      obtain ⟨i1, i2⟩ := ih l (a.put o.dst (val k)) hl h3
      refine ⟨⟨⟨o, ho', h1, fun cs b => hsel k o cs b ho', h2⟩, by rw [hd]; exact i1⟩, ?_⟩
      show aL ops val (a.put (dstOf ops k) (val k)) L = aP val (a.put o.dst (val k)) l
      rw [hd]
      exact i2
    · cases h
theorem wp_region_freeO {id : Nat} {a : Act} {w : World} (L M : List Nat) (S : World → Prop) (val : Nat → Value) {os' : List Oper} {os : List (Nat × Oper)} (hm : P.follows .mixedOrders = true) (hos' : ops = os'.toArray) (hpk : pickN os' L = some os) (hsz : ops.size = M.length + L.length)
    (hn : Region.noSelect ops = true) (hb : canonB .any ops = true) (hd : distB ops = true) (hf : freeL .any ops L M = true) (hLs : (decide (L.Pairwise (· < ·)) && decide M.Nodup) = true) (hS : S w.drew)
    (hr : SeqO P ops S val a os) (ht : wpFree P .any ops (QN Q) S M.length M (aP val a os) w.drew) : (Code.region id ops true).wp P Q a w := by
  simp only [Bool.and_eq_true, decide_eq_true_eq] at hLs
  obtain ⟨h1, h2⟩ := seqO_R (P := P) (S := S) hos' (Region.noSelect_spec hn) L os a hpk hr
  exact wp_region_free L M S val hm hsz hn hb hd hf hLs.1 hLs.2 hS h1 (by rw [h2]; exact ht)
/-- Which of the operations M may come next? -/
def readyM (md : Region.Mode) (ops : Array Oper) (M : List Nat) : List Nat := M.filter fun j => M.all fun k => !waits md ops j k
theorem mem_readyM {M : List Nat} {j : Nat} (hj : j ∈ M) (h : ∀ k ∈ M, waits md ops j k = false) : j ∈ readyM md ops M := List.mem_filter.2 ⟨hj, by simpa using h⟩
theorem wpFree.one {n i : Nat} {M M' : List Nat} {a : Act} {w : World} (hr : readyM md ops M = [i]) (hM : M.erase i = M') (h : wpOp P ops Q i (fun a w => S w ∧ wpFree P md ops Q S n M' a w) a w) : wpFree P md ops Q S (n + 1) M a w := fun j hj hall => by
  have h1 := mem_readyM hj hall
  rw [hr] at h1
  obtain rfl := List.mem_singleton.1 h1
  rw [hM]
  exact h
theorem wpFree.two {n i k : Nat} {M Mi Mk : List Nat} {a : Act} {w : World} (hr : readyM md ops M = [i, k]) (hMi : M.erase i = Mi) (hMk : M.erase k = Mk) (hi : wpOp P ops Q i (fun a w => S w ∧ wpFree P md ops Q S n Mi a w) a w) (hk : wpOp P ops Q k (fun a w => S w ∧ wpFree P md ops Q S n Mk a w) a w) : wpFree P md ops Q S (n + 1) M a w := fun j hj hall => by
  have h1 := mem_readyM hj hall
  rw [hr] at h1
  rcases List.mem_cons.1 h1 with rfl | h1
  · rw [hMi]; exact hi
  · obtain rfl := List.mem_singleton.1 h1
    rw [hMk]; exact hk
theorem wpFree.done {M : List Nat} {a : Act} {w : World} (h : Q .normal a w) : wpFree P md ops (QN Q) S 0 M a w := h
theorem wpOp.val {i : Nat} {a : Act} {w : World} {o : Oper} {K0 : Act → World → Prop} (hi : ops[i]? = some o) (hw : Region.wanted o (yielded ops a.tmps) = true) (h : ∀ K : Act → World → Prop, (∀ a w, K0 a w → K a w) → o.wp P a w K Q) : wpOp P ops Q i K0 a w := by
  unfold wpOp
  simp only [hi]
  rw [if_pos hw]
  exact .inl (h _ fun _ _ h => h)
end
end Go.Proofs.YtddjkbpgaenpgaaGreat
end
