/- What Keep answers: of each version, whether it is kept. No condition but that there are at most a million versions. -/
import Derived.Test.YtbmlfhiffooilaaKpF
import Derived.Test.YtbmlfhiffooilaaLate
import Derived.Test.YtbmlfhiffooilaaRelT
namespace Go.Proofs.Ytbmlfhiffooilaa
open Go.RowKit Go.Shelf

theorem run_makeBools (W : World) (n : Nat) (h : n ≤ 1000000) : ∃ cs : Array Value, cs.size = n ∧ (Instr.makeSlice 39 (.int .i64 (n : Int)) (.int .i64 (n : Int))).run Try.prog W = .ok (.slice (some ⟨W.heap.size, 0, none⟩) n n) (W.alloc (.cells cs 4)) := by
  obtain ⟨i0, hi, hz0, hz1, hz2⟩ := info_parts (show (Try.prog.info? 4).map (fun i => (i.zero, i.size, i.bytes)) = some (some (.bool false), 1, 1) by kernel_rfl)
  have hmk := run_make (P := Try.prog) W 39 4 i0 (.bool false) Try.underlying39 hi hz0 .i64 .i64 n n (by omega) (by omega) (by rw [hz2]; omega) (by omega)
  rw [Int.toNat_natCast, hz1, Nat.mul_one] at hmk
  exact ⟨_, size_madeCells _ _, hmk⟩
section
variable {ops : Array Oper} {Q : Exit → Act → World → Prop} {r m : Nat} {a : Act} {W : World}
theorem wpTail.store_bool {o : Oper} (hi : ops[r]? = some o) (hgd : o.guard = none) (hd : o.dst = none) (x y : Operand) (ho : o.op = .store 4 x y)
    (b i : Nat) (cs : Array Value) (q : Bool) (hx : a.eval x = .pointer (some ⟨b, i, none⟩)) (hy : a.eval y = .bool q) (h : Blk W b 4 cs) (hlt : i < cs.size)
    (hK : ∀ w', Blk w' b 4 (cs.setIfInBounds i (.bool q)) → Frm (· = b) W w' → wpTail Try.prog ops Q (r + 1) m a w') : wpTail Try.prog ops Q r (m + 1) a W := by
  have c0 := h.cell i (v := cs[i]) (by simp [hlt])
  have f0 := h.free i
  refine wpTail.cons hi hgd fun K hK' => ?_
  unfold Oper.wp execOp
  simp only [ho, hx, hy]
  go_simp
  refine hK' _ _ (hK _ ?_ ?_)
  · exact h.set i _
  · exact (Frm.refl (· = b) W).setCell (p := ⟨b, i, none⟩) (fun _ => rfl) _
end
theorem Hid.grow9 {P : World → Prop} {w w' : World} (H : Hid (∀ W, Frm (fun _ => False) w W → P W)) (g : Frm (fun _ => False) w w') : Hid (∀ W, Frm (fun _ => False) w' W → P W) := Lib.hid fun W g' => H.out W (g.trans g')
/-- Bools, as cells. -/
def bls (L : List Bool) : Array Value := (L.map Value.bool).toArray
theorem bls_size (L : List Bool) : (bls L).size = L.length := by simp [bls]
theorem bls_at (L : List Bool) (i : Nat) (h : i < L.length) : (bls L)[i]? = some (.bool L[i]) := by simp [bls, h]
/-- What Keep answers. -/
def KeepTo (L : List Bool) (w : World) (e : Ending) (w' : World) : Prop :=
  ∃ b, e = .returned (.slice (some ⟨b, 0, none⟩) L.length L.length) ∧ w.heap.size ≤ b ∧ Blk w' b 4 (bls L) ∧ Frm (fun _ => False) w w'
/-- The rule for an age. -/
theorem evalR_at {P : List RuV} {k : Nat} (h : k < P.length) {d : Nat} (s : StI) (h1 : decide (d ≤ P[k].1.up) = true) (h2 : ∀ j (hj : j < P.length), j < k → decide (d ≤ P[j].1.up) = false) : evalR (P.map Prod.fst) d s = P[k].1.p s := by
  induction P generalizing k with
  | nil => simp at h
  | cons x P ih =>
    rw [List.map_cons, evalR_cons]
    cases k with
    | zero => rw [if_pos (show d ≤ x.1.up from of_decide_eq_true h1)]; rfl
    | succ k =>
      have h3 := h2 0 (by simp) (by omega)
      rw [if_neg (show ¬ d ≤ x.1.up from of_decide_eq_false h3)]
      exact ih (k := k) (by simpa using h) h1 (fun j hj hjk => h2 (j + 1) (by simpa using hj) (by omega))
theorem evalR_none {P : List RuV} {d : Nat} (s : StI) (h2 : ∀ j (hj : j < P.length), decide (d ≤ P[j].1.up) = false) : evalR (P.map Prod.fst) d s = false := by
  induction P with
  | nil => rfl
  | cons x P ih =>
    rw [List.map_cons, evalR_cons, if_neg (show ¬ d ≤ x.1.up from of_decide_eq_false (h2 0 (by simp)))]
    exact ih (fun j hj => h2 (j + 1) (by simpa using hj))
def kp1M : List Nat := [1, 2, 7, 8, 24, 56, 71, 184]
def kp1R (k ag : Nat) (qt : Int) (l : List StI) (A : Nat) (a : Option Addr) (cap : Nat) : List ((Nat → Value) → World → Prop) := [
  fun val _ => val 0 = .agg (pv k ag qt),
  fun val _ => val 1 = .slice a l.length cap,
  fun val W => ∃ v P, (val 2) = v ∧ RuL W v P ∧ ∀ now s, now ≤ 4294967295 → evalR (P.map Prod.fst) (now - s.tick) s = one9 k ag l now s,
  fun val _ => val 3 = .slice a l.length cap,
  fun val _ => val 4 = .int .i64 (l.length : Int),
  fun val W => ∃ b cs, (val 5) = .slice (some ⟨b, 0, none⟩) l.length l.length ∧ A ≤ b ∧ Blk W b 4 cs ∧ cs.size = l.length,
  fun val _ => val 6 = (val 2),
  fun val _ => val 7 = (val 5)]
def kp7tM : List Nat := [1, 2, 4, 12, 28, 60, 92, 252, 508, 1020, 1052, 4092, 8188, 8195, 32767]
def kp7tR (rg b18 j kk : Nat) (l : List StI) (P : List RuV) (s : StI) (gf : FuncId) (caps : Array Value) (q : Bool) : List ((Nat → Value) → World → Prop) := [
  fun val _ => val 0 = .slice (some ⟨b18, 0, none⟩) l.length l.length,
  fun val _ => val 1 = .int .i64 (j : Int),
  fun val _ => val 2 = .int .i64 (kk : Int),
  fun val _ => val 3 = .bool true,
  fun val _ => val 4 = .bool true,
  fun val _ => val 5 = .slice (some ⟨rg, 0, none⟩) P.length P.length,
  fun val _ => val 6 = .int .i64 (kk : Int),
  fun val _ => val 7 = .pointer (some ⟨rg, kk * 2, none⟩),
  fun val _ => val 8 = .pointer (some ⟨rg, kk * 2 + 1, none⟩),
  fun val _ => val 9 = .func (.func gf) #[] caps,
  fun val _ => val 10 = .agg (stv s),
  fun val _ => val 11 = .bool q,
  fun val _ => val 12 = .bool q,
  fun val _ => val 13 = .pointer (some ⟨b18, j, none⟩)]
def kp7fM : List Nat := [1, 2, 4, 12, 28, 60, 92, 252, 508, 1020, 1052, 4092, 8188, 8195, 32767]
def kp7fR (b18 j : Nat) (l : List StI) : List ((Nat → Value) → World → Prop) := [
  fun val _ => val 0 = .slice (some ⟨b18, 0, none⟩) l.length l.length,
  fun val _ => val 1 = .int .i64 (j : Int),
  fun val _ => val 2 = .int .i64 (-1),
  fun val _ => val 3 = .bool false,
  fun val _ => val 4 = .bool false,
  fun val _ => val 5 = undef,
  fun val _ => val 6 = undef,
  fun val _ => val 7 = undef,
  fun val _ => val 8 = undef,
  fun val _ => val 9 = undef,
  fun val _ => val 10 = undef,
  fun val _ => val 11 = undef,
  fun val _ => val 12 = .bool false,
  fun val _ => val 13 = .pointer (some ⟨b18, j, none⟩)]

set_option maxRecDepth 100000 in
set_option maxHeartbeats 8000000 in
theorem keep_any (k ag now : Nat) (qt : Int) (v : Value) (l : List StI) (w : World) (h : StL w v l) (hb : l.length ≤ 1000000) (hnow : now ≤ 4294967295) :
    Calls Try.prog 16 #[.agg (pv k ag qt), v, .int .u32 (now : Int)] w (KeepTo (keep9 k ag l now) w) := by
  obtain ⟨a, cap, rfl, hc1, hc2⟩ := h.slice
  unfold maxLen at hc2
  have g0 : Frm (fun _ => False) w (w.alloc (.cells (pv k ag qt) 27)) := (Frm.refl _ w).alloc _
  have b0 : Blk (w.alloc (.cells (pv k ag qt) 27)) w.heap.size 27 (pv k ag qt) := Blk.alloc w _ _
  go_enter Try.func16, Try.ntmps16
  go_upto_region 1 with fail
  rename_i hK
  generalize w.alloc (.cells (pv k ag qt) 27) = w1 at *
  obtain ⟨A, hA⟩ : ∃ A, w.heap.size = A := ⟨_, rfl⟩
  have HAA := Lib.hid hA
  have HB := Lib.hid hb
  rw [hA] at b0 ⊢
  have HP : Hid (∀ W, Frm (fun _ => False) w1 W → Blk W A 27 (pv k ag qt)) := Lib.hid fun W g => b0.keep g (fun h => h)
  have HL : Hid (∀ W, Frm (fun _ => False) w1 W → StL W (.slice a l.length cap) l) := Lib.hid fun W g => h.keepF (g0.trans g)
  have HK : Hid (∀ W, Frm (fun _ => False) w1 W → A ≤ W.heap.size) := Lib.hid fun W g => by have := g0.size; have := g.size; omega
  have HG := Lib.hid g0
  have HL0 := Lib.hid h
  clear h b0 hA g0
  have D : Frm (fun _ => False) w1 w1.drew := (Frm.refl _ _).drew
  refine wp_region_late 8 0 [] [[], [], [0, 1], [], [3], [4], [2], [5]] kp1M (kp1R k ag qt l A a cap) (by kernel_rfl) rfl rfl rfl (by kernel_rfl) (by kernel_rfl) (by kernel_rfl) (by kernel_rfl) rfl (by kernel_rfl) (by kernel_rfl) (by kernel_rfl) (by kernel_rfl) (fun val => ?_) ?_
  · try dsimp only
    refine RelO.next (k' := 1) rfl (fun W gW hF => ?_) ?_
    focus
      have z0 := (HP.out W (D.trans gW)).cell 0 rfl
      have z1 := (HP.out W (D.trans gW)).cell 1 rfl
      have z2 := (HP.out W (D.trans gW)).cell 2 rfl
      exact OpOK.val (u := .agg (pv k ag qt)) (by rfl) (by first | (go_simp; done) | (go_simp; with_reducible rfl) | (go_simp; rfl)) (fun W' _ => rfl)
    try simp only [Act.put, List.setIfInBounds_toArray, List.set_cons_zero, List.set_cons_succ]
    refine RelO.next (k' := 2) rfl (fun W gW hF => ?_) ?_
    focus
      refine OpOK.val (u := .slice a l.length cap) (by rfl) ?_ (fun W' _ => rfl)
      try simp only [tupAt]
      first | (go_simp; done) | (go_simp; with_reducible rfl) | (go_simp; rfl)
    try simp only [Act.put, List.setIfInBounds_toArray, List.set_cons_zero, List.set_cons_succ]
    refine RelO.next (k' := 3) rfl (fun W gW hF => ?_) ?_
    focus
      obtain ⟨h0, h1, _⟩ := hF
      have e0 : val 0 = .agg (pv k ag qt) := h0 _ (Frm.refl _ W)
      have e1 : val 1 = .slice a l.length cap := h1 _ (Frm.refl _ W)
      try simp only [e1]
      try simp only [e0]
      try simp only [tupAt]
      refine OpOK.call (by rfl) ?_ ((rules9_any k ag qt _ l W (HL.out W (D.trans gW)) HB.out).mono ?_)
      · first | (go_simp; done) | (go_simp; with_reducible rfl) | (go_simp; rfl)
      · rintro e W1 ⟨v', P', rfl, h1, h3, g1⟩
        exact ⟨_, rfl, g1, fun W2 g2 => ⟨v', P', rfl, h1.keepF g2, h3⟩⟩
    try simp only [Act.put, List.setIfInBounds_toArray, List.set_cons_zero, List.set_cons_succ]
    refine RelO.next (k' := 4) rfl (fun W gW hF => ?_) ?_
    focus
      refine OpOK.val (u := .slice a l.length cap) (by rfl) ?_ (fun W' _ => rfl)
      try simp only [tupAt]
      first | (go_simp; done) | (go_simp; with_reducible rfl) | (go_simp; rfl)
    try simp only [Act.put, List.setIfInBounds_toArray, List.set_cons_zero, List.set_cons_succ]
    refine RelO.next (k' := 5) rfl (fun W gW hF => ?_) ?_
    focus
      obtain ⟨h3, _⟩ := hF
      have e3 : val 3 = .slice a l.length cap := h3 _ (Frm.refl _ W)
      try simp only [e3]
      try simp only [tupAt]
      refine OpOK.val (u := .int .i64 (l.length : Int)) (by rfl) ?_ (fun W' _ => rfl)
      try simp only [e3]
      try simp only [tupAt]
      first | (go_simp; done) | (go_simp; with_reducible rfl) | (go_simp; rfl)
    try simp only [Act.put, List.setIfInBounds_toArray, List.set_cons_zero, List.set_cons_succ]
    refine RelO.next (k' := 6) rfl (fun W gW hF => ?_) ?_
    focus
      obtain ⟨h4, _⟩ := hF
      have e4 : val 4 = .int .i64 (l.length : Int) := h4 _ (Frm.refl _ W)
      try simp only [e4]
      try simp only [tupAt]
      have hlt := HK.out W (D.trans gW)
      obtain ⟨cs', hc1', hc2'⟩ := run_makeBools W l.length HB.out
      refine OpOK.made (W' := W.alloc (.cells cs' 4)) (u := .slice (some ⟨W.heap.size, 0, none⟩) l.length l.length) (by rfl) ?_ ((Frm.refl _ W).alloc _) (fun W2 g2 => ⟨W.heap.size, cs', rfl, hlt, (Blk.alloc W _ _).keep g2 (fun h => h), hc1'⟩)
      first | (go_simp; done) | (go_simp; with_reducible rfl) | (go_simp; rfl)
    try simp only [Act.put, List.setIfInBounds_toArray, List.set_cons_zero, List.set_cons_succ]
    refine RelO.next (k' := 7) rfl (fun W gW hF => ?_) ?_
    focus
      obtain ⟨h2, _⟩ := hF
      have q2 : ∃ v P, (val 2) = v ∧ RuL W v P ∧ ∀ now s, now ≤ 4294967295 → evalR (P.map Prod.fst) (now - s.tick) s = one9 k ag l now s := h2 _ (Frm.refl _ W)
      obtain ⟨vr, P, e2, oP, hPE⟩ := q2
      try simp only [e2]
      try simp only [tupAt]
      refine OpOK.val (u := (val 2)) (by rfl) ?_ (fun W' _ => rfl)
      try simp only [e2]
      try simp only [tupAt]
      first | (go_simp; done) | (go_simp; with_reducible rfl) | (go_simp; rfl)
    try simp only [Act.put, List.setIfInBounds_toArray, List.set_cons_zero, List.set_cons_succ]
    refine RelO.next (k' := 8) rfl (fun W gW hF => ?_) ?_
    focus
      obtain ⟨h5, _⟩ := hF
      have q5 : ∃ b cs, (val 5) = .slice (some ⟨b, 0, none⟩) l.length l.length ∧ A ≤ b ∧ Blk W b 4 cs ∧ cs.size = l.length := h5 _ (Frm.refl _ W)
      obtain ⟨b18, cs, e5, hb18, o18, hcs⟩ := q5
      try simp only [e5]
      try simp only [tupAt]
      refine OpOK.val (u := (val 5)) (by rfl) ?_ (fun W' _ => rfl)
      try simp only [e5]
      try simp only [tupAt]
      first | (go_simp; done) | (go_simp; with_reducible rfl) | (go_simp; rfl)
    try simp only [Act.put, List.setIfInBounds_toArray, List.set_cons_zero, List.set_cons_succ]
    exact RelO.nil
  intro val w3 gW hF
  obtain ⟨h0, h1, h2, h3, h4, h5, h6, h7, hT⟩ := hF
  have e0 : val 0 = .agg (pv k ag qt) := h0 _ (Frm.refl _ w3)
  have e1 : val 1 = .slice a l.length cap := h1 _ (Frm.refl _ w3)
  have q2 : ∃ v P, (val 2) = v ∧ RuL w3 v P ∧ ∀ now s, now ≤ 4294967295 → evalR (P.map Prod.fst) (now - s.tick) s = one9 k ag l now s := h2 _ (Frm.refl _ w3)
  obtain ⟨vr, P, e2, oP, hPE⟩ := q2
  have e3 : val 3 = .slice a l.length cap := h3 _ (Frm.refl _ w3)
  have e4 : val 4 = .int .i64 (l.length : Int) := h4 _ (Frm.refl _ w3)
  have q5 : ∃ b cs, (val 5) = .slice (some ⟨b, 0, none⟩) l.length l.length ∧ A ≤ b ∧ Blk w3 b 4 cs ∧ cs.size = l.length := h5 _ (Frm.refl _ w3)
  obtain ⟨b18, cs, e5, hb18, o18, hcs⟩ := q5
  have e6 : val 6 = (val 2) := h6 _ (Frm.refl _ w3)
  have e7 : val 7 = (val 5) := h7 _ (Frm.refl _ w3)
  clear hT h0 h1 h2 h3 h4 h5 h6 h7
  simp only [aO, Act.put, List.setIfInBounds_toArray, List.set_cons_zero, List.set_cons_succ, Nat.reduceAdd]
  try simp only [e7]
  try simp only [e6]
  try simp only [e5]
  try simp only [e4]
  try simp only [e3]
  try simp only [e2]
  try simp only [e1]
  try simp only [e0]
  try simp only [tupAt]
  refine wpTail.doneN ?_
  refine hK _ _ ?_
  have g2 := HG.out.trans (D.trans gW)
  obtain ⟨rg, rfl, _⟩ := oP.blk
  have hr2 := oP.few
  have HRL := Lib.hid oP
  have HPE := Lib.hid hPE
  have HO := Lib.hid o18
  have HG2 := Lib.hid g2
  have HB18 : Hid (w.heap.size ≤ b18) := Lib.hid (by have := HAA.out; omega)
  clear HP HL HK D gW hK oP hPE o18 g2 hb18 HG e0 e1 e2 e3 e4 e5 e6 e7
  go_upto_region 3 with fail
  go_loopw [21] (fun i wr => ∃ (j : Nat) (cs : Array Value), j ≤ l.length ∧ i = .int .i64 j ∧ Blk wr b18 4 cs ∧ cs.size = l.length ∧ (∀ t (ht : t < l.length), t < j → cs[t]? = some (.bool (one9 k ag l now l[t]))) ∧ FrB w3 wr ∧ Frm (fun _ => False) w wr) (fun i _ => l.length - (intOf i).toNat)
  case atStart => exact ⟨0, cs, Nat.zero_le _, rfl, HO.out, hcs, fun t _ h => absurd h (Nat.not_lt_zero _), .of (Frm.refl _ _), HG2.out⟩
  case round =>
    obtain ⟨j, cs, hj, rfl, hBc, hcs, hdone, hFB, hF⟩ := hrel
    by_cases hlt : j < l.length
    · have hji : (j : Int) < (l.length : Int) := by omega
      have hj0 : (0 : Int) ≤ (j : Int) := by omega
      obtain ⟨g, off, rfl, e0, e1⟩ := (HL0.out.keepF hF).elem j hlt
      obtain ⟨s, hs⟩ : ∃ s, l[j] = s := ⟨_, rfl⟩
      have HS := Lib.hid hs
      rw [hs] at e0 e1
      clear hs
      obtain ⟨d, hd⟩ : ∃ d, now - s.tick = d := ⟨_, rfl⟩
      have HD := Lib.hid hd
      clear hd
      have g4 : Frm (fun _ => False) wr (wr.alloc (.cells (stv s) 24)) := (Frm.refl _ wr).alloc _
      have x0 : Blk (wr.alloc (.cells (stv s) 24)) wr.heap.size 24 (stv s) := Blk.alloc wr _ _
      have p0 := x0.cell 0 rfl
      have p1 := x0.cell 1 rfl
      have HN := Lib.hid (age_any s now (wr.alloc (.cells (stv s) 24)) hnow)
      rw [HD.out] at HN
      have HBc := Lib.hid hBc
      have HDN := Lib.hid hdone
      have HFB := Lib.hid hFB
      have HF := Lib.hid hF
      have HX := Lib.hid x0
      have HG4 := Lib.hid g4
      obtain ⟨S, hS⟩ : ∃ S, wr.heap.size = S := ⟨_, rfl⟩
      have HSZ := Lib.hid hS
      clear hBc hdone hFB hF x0 g4
      go_wp2_with fail
      refine HN.out.mono ?_
      rintro e w5 ⟨rfl, g5⟩
      have x5 := HX.out.keep g5 (fun h => h)
      rw [HSZ.out] at x5
      have g6 : Frm (fun _ => False) w5 (w5.alloc (.cells #[.int .u32 (d : Int)] 22)) := (Frm.refl _ w5).alloc _
      have x6 : Blk (w5.alloc (.cells #[.int .u32 (d : Int)] 22)) w5.heap.size 22 #[.int .u32 (d : Int)] := Blk.alloc w5 _ _
      have gg := (HG4.out.trans g5).trans g6
      have y5 := x5.keep g6 (fun h => h)
      have HIX := Lib.hid (idx9_any P (.slice (some ⟨rg, 0, none⟩) P.length P.length) 26 #[.pointer (some ⟨w5.heap.size, 0, none⟩)] (fun r => decide (d ≤ r.up)) _ ((HRL.out.keepB HFB.out).keepF gg) (enters_of Try.func26 (by kernel_rfl) rfl)
        (fun x hx W g => keep1_any _ d x W (x6.keep g (fun h => h))))
      have hmf : ∀ (fn : Fn) (first cap : Array Value) (w : World), (Instr.makeFunc fn first cap).run Try.prog w = .ok (.func fn first cap) w := fun _ _ _ _ => rfl
      have HGG := Lib.hid gg
      have HY5 := Lib.hid y5
      clear x5 g5 g6 x6 gg y5 p0 p1 e0 e1 HN HX HG4 hS
      go_wp2_with fail
      refine HIX.out.mono ?_
      rintro e w7 ⟨g7, hres⟩
      rcases hres with ⟨kk, hkk, rfl, hq, hbef⟩ | ⟨rfl, hnone⟩
      · obtain ⟨gf, caps, hv, hen, hcall⟩ := (((HRL.out.keepB HFB.out).keepF HGG.out).keepF g7).to P[kk] (List.getElem_mem hkk)
        obtain ⟨cR0, cR⟩ := (((HRL.out.keepB HFB.out).keepF HGG.out).keepF g7).elem kk hkk
        rw [hv] at cR
        obtain ⟨q, hqv⟩ : ∃ q, P[kk].1.p s = q := ⟨_, rfl⟩
        have hone : one9 k ag l now s = q := by
          rw [← HPE.out now s hnow, HD.out, evalR_at hkk s hq hbef, hqv]
        have HQ := Lib.hid hone
        have HR : Hid (∀ W, Frm (fun _ => False) w7 W → W.cell? ⟨rg, kk * 2 + 1, none⟩ = some (.func (.func gf) #[] caps)) := Lib.hid fun W g => g.cellF cR
        have HST : Hid (∀ W, Frm (fun _ => False) w7 W → Blk W S 24 (stv s)) := Lib.hid fun W g => (HY5.out.keep g7 (fun h => h)).keep g (fun h => h)
        have HC : Hid (∀ W, Frm (fun _ => False) w7 W → Calls Try.prog gf (#[.agg (stv s)] ++ caps) W fun e w' => e = .returned (.bool q) ∧ Frm (fun _ => False) W w') := Lib.hid fun W g => by rw [← hqv]; exact hcall s W (.of g)
        have HEN := Lib.hid hen
        have hk0 : (0 : Int) ≤ (kk : Int) := by omega
        have hk1 : (kk : Int) < (P.length : Int) := by omega
        clear hv hen hcall cR cR0 hqv hone hq hbef
        go_upto_region 7 with fail
        rename_i hK
        have D : Frm (fun _ => False) w7 w7.drew := (Frm.refl _ _).drew
        refine wp_region_late 14 1 [] [[], [], [], [2], [3], [4], [4], [4, 5, 6], [4, 7], [4, 8], [4], [4, 9, 10], [4, 11], [0, 1]] kp7tM (kp7tR rg b18 j kk l P s gf caps q) (by kernel_rfl) rfl rfl rfl (by kernel_rfl) (by kernel_rfl) (by kernel_rfl) (by kernel_rfl) rfl (by kernel_rfl) (by kernel_rfl) (by kernel_rfl) (by kernel_rfl) (fun val => ?_) ?_
        · try simp only [Act.put, List.setIfInBounds_toArray, List.set_cons_zero, List.set_cons_succ]
          refine RelO.next (k' := 1) rfl (fun W gW hF => ?_) ?_
          focus
            refine OpOK.val (u := .slice (some ⟨b18, 0, none⟩) l.length l.length) (by rfl) ?_ (fun W' _ => rfl)
            try simp only [tupAt]
            first | (go_simp; done) | (go_simp; with_reducible rfl) | (go_simp; rfl)
          try simp only [Act.put, List.setIfInBounds_toArray, List.set_cons_zero, List.set_cons_succ]
          refine RelO.next (k' := 2) rfl (fun W gW hF => ?_) ?_
          focus
            refine OpOK.val (u := .int .i64 (j : Int)) (by rfl) ?_ (fun W' _ => rfl)
            try simp only [tupAt]
            first | (go_simp; done) | (go_simp; with_reducible rfl) | (go_simp; rfl)
          try simp only [Act.put, List.setIfInBounds_toArray, List.set_cons_zero, List.set_cons_succ]
          refine RelO.next (k' := 3) rfl (fun W gW hF => ?_) ?_
          focus
            refine OpOK.val (u := .int .i64 (kk : Int)) (by rfl) ?_ (fun W' _ => rfl)
            try simp only [tupAt]
            first | (go_simp; done) | (go_simp; with_reducible rfl) | (go_simp; rfl)
          try simp only [Act.put, List.setIfInBounds_toArray, List.set_cons_zero, List.set_cons_succ]
          refine RelO.next (k' := 4) rfl (fun W gW hF => ?_) ?_
          focus
            obtain ⟨h2, _⟩ := hF
            have e2 : val 2 = .int .i64 (kk : Int) := h2 _ (Frm.refl _ W)
            try simp only [e2]
            try simp only [tupAt]
            refine OpOK.val (u := .bool true) (by rfl) ?_ (fun W' _ => rfl)
            try simp only [e2]
            try simp only [tupAt]
            first | (go_simp; done) | (go_simp; with_reducible rfl) | (go_simp; rfl)
          try simp only [Act.put, List.setIfInBounds_toArray, List.set_cons_zero, List.set_cons_succ]
          refine RelO.next (k' := 5) rfl (fun W gW hF => ?_) ?_
          focus
            obtain ⟨h3, _⟩ := hF
            have e3 : val 3 = .bool true := h3 _ (Frm.refl _ W)
            try simp only [e3]
            try simp only [tupAt]
            refine OpOK.val (u := .bool true) (by rfl) ?_ (fun W' _ => rfl)
            try simp only [e3]
            try simp only [tupAt]
            first | (go_simp; done) | (go_simp; with_reducible rfl) | (go_simp; rfl)
          try simp only [Act.put, List.setIfInBounds_toArray, List.set_cons_zero, List.set_cons_succ]
          refine RelO.next (k' := 6) rfl (fun W gW hF => ?_) ?_
          focus
            obtain ⟨h4, _⟩ := hF
            have e4 : val 4 = .bool true := h4 _ (Frm.refl _ W)
            try simp only [e4]
            try simp only [tupAt]
            refine OpOK.val (u := .slice (some ⟨rg, 0, none⟩) P.length P.length) (by rfl) ?_ (fun W' _ => rfl)
            try simp only [e4]
            try simp only [tupAt]
            first | (go_simp; done) | (go_simp; with_reducible rfl) | (go_simp; rfl)
          try simp only [Act.put, List.setIfInBounds_toArray, List.set_cons_zero, List.set_cons_succ]
          refine RelO.next (k' := 7) rfl (fun W gW hF => ?_) ?_
          focus
            obtain ⟨h4, _⟩ := hF
            have e4 : val 4 = .bool true := h4 _ (Frm.refl _ W)
            try simp only [e4]
            try simp only [tupAt]
            refine OpOK.val (u := .int .i64 (kk : Int)) (by rfl) ?_ (fun W' _ => rfl)
            try simp only [e4]
            try simp only [tupAt]
            first | (go_simp; done) | (go_simp; with_reducible rfl) | (go_simp; rfl)
          try simp only [Act.put, List.setIfInBounds_toArray, List.set_cons_zero, List.set_cons_succ]
          refine RelO.next (k' := 8) rfl (fun W gW hF => ?_) ?_
          focus
            obtain ⟨h4, h5, h6, _⟩ := hF
            have e4 : val 4 = .bool true := h4 _ (Frm.refl _ W)
            have e5 : val 5 = .slice (some ⟨rg, 0, none⟩) P.length P.length := h5 _ (Frm.refl _ W)
            have e6 : val 6 = .int .i64 (kk : Int) := h6 _ (Frm.refl _ W)
            try simp only [e6]
            try simp only [e5]
            try simp only [e4]
            try simp only [tupAt]
            refine OpOK.val (u := .pointer (some ⟨rg, kk * 2, none⟩)) (by rfl) ?_ (fun W' _ => rfl)
            try simp only [e6]
            try simp only [e5]
            try simp only [e4]
            try simp only [tupAt]
            first | (go_simp; done) | (go_simp; with_reducible rfl) | (go_simp; rfl)
          try simp only [Act.put, List.setIfInBounds_toArray, List.set_cons_zero, List.set_cons_succ]
          refine RelO.next (k' := 9) rfl (fun W gW hF => ?_) ?_
          focus
            obtain ⟨h4, h7, _⟩ := hF
            have e4 : val 4 = .bool true := h4 _ (Frm.refl _ W)
            have e7 : val 7 = .pointer (some ⟨rg, kk * 2, none⟩) := h7 _ (Frm.refl _ W)
            try simp only [e7]
            try simp only [e4]
            try simp only [tupAt]
            refine OpOK.val (u := .pointer (some ⟨rg, kk * 2 + 1, none⟩)) (by rfl) ?_ (fun W' _ => rfl)
            try simp only [e7]
            try simp only [e4]
            try simp only [tupAt]
            first | (go_simp; done) | (go_simp; with_reducible rfl) | (go_simp; rfl)
          try simp only [Act.put, List.setIfInBounds_toArray, List.set_cons_zero, List.set_cons_succ]
          refine RelO.next (k' := 10) rfl (fun W gW hF => ?_) ?_
          focus
            obtain ⟨h4, h8, _⟩ := hF
            have e4 : val 4 = .bool true := h4 _ (Frm.refl _ W)
            have e8 : val 8 = .pointer (some ⟨rg, kk * 2 + 1, none⟩) := h8 _ (Frm.refl _ W)
            try simp only [e8]
            try simp only [e4]
            try simp only [tupAt]
            have z0 := HR.out W (D.trans gW)
            exact OpOK.val (u := .func (.func gf) #[] caps) (by rfl) (by first | (go_simp; done) | (go_simp; with_reducible rfl) | (go_simp; rfl)) (fun W' _ => rfl)
          try simp only [Act.put, List.setIfInBounds_toArray, List.set_cons_zero, List.set_cons_succ]
          refine RelO.next (k' := 11) rfl (fun W gW hF => ?_) ?_
          focus
            obtain ⟨h4, _⟩ := hF
            have e4 : val 4 = .bool true := h4 _ (Frm.refl _ W)
            try simp only [e4]
            try simp only [tupAt]
            have z0 := (HST.out W (D.trans gW)).cell 0 rfl
            have z1 := (HST.out W (D.trans gW)).cell 1 rfl
            exact OpOK.val (u := .agg (stv s)) (by rfl) (by first | (go_simp; done) | (go_simp; with_reducible rfl) | (go_simp; rfl)) (fun W' _ => rfl)
          try simp only [Act.put, List.setIfInBounds_toArray, List.set_cons_zero, List.set_cons_succ]
          refine RelO.next (k' := 12) rfl (fun W gW hF => ?_) ?_
          focus
            obtain ⟨h4, h9, h10, _⟩ := hF
            have e4 : val 4 = .bool true := h4 _ (Frm.refl _ W)
            have e9 : val 9 = .func (.func gf) #[] caps := h9 _ (Frm.refl _ W)
            have e10 : val 10 = .agg (stv s) := h10 _ (Frm.refl _ W)
            try simp only [e10]
            try simp only [e9]
            try simp only [e4]
            try simp only [tupAt]
            have hen' := HEN.out
            refine OpOK.call (by rfl) ?_ ((HC.out W (D.trans gW)).mono ?_)
            · first | (go_simp; done) | (go_simp; with_reducible rfl) | (go_simp; rfl)
            · rintro e W1 ⟨rfl, g1⟩
              exact ⟨_, rfl, g1, fun W2 _ => rfl⟩
          try simp only [Act.put, List.setIfInBounds_toArray, List.set_cons_zero, List.set_cons_succ]
          refine RelO.next (k' := 13) rfl (fun W gW hF => ?_) ?_
          focus
            obtain ⟨h4, h11, _⟩ := hF
            have e4 : val 4 = .bool true := h4 _ (Frm.refl _ W)
            have e11 : val 11 = .bool q := h11 _ (Frm.refl _ W)
            try simp only [e11]
            try simp only [e4]
            try simp only [tupAt]
            refine OpOK.val (u := .bool q) (by rfl) ?_ (fun W' _ => rfl)
            try simp only [e11]
            try simp only [e4]
            try simp only [tupAt]
            first | (go_simp; done) | (go_simp; with_reducible rfl) | (go_simp; rfl)
          try simp only [Act.put, List.setIfInBounds_toArray, List.set_cons_zero, List.set_cons_succ]
          refine RelO.next (k' := 14) rfl (fun W gW hF => ?_) ?_
          focus
            obtain ⟨h0, h1, _⟩ := hF
            have e0 : val 0 = .slice (some ⟨b18, 0, none⟩) l.length l.length := h0 _ (Frm.refl _ W)
            have e1 : val 1 = .int .i64 (j : Int) := h1 _ (Frm.refl _ W)
            try simp only [e1]
            try simp only [e0]
            try simp only [tupAt]
            refine OpOK.val (u := .pointer (some ⟨b18, j, none⟩)) (by rfl) ?_ (fun W' _ => rfl)
            try simp only [e1]
            try simp only [e0]
            try simp only [tupAt]
            first | (go_simp; done) | (go_simp; with_reducible rfl) | (go_simp; rfl)
          try simp only [Act.put, List.setIfInBounds_toArray, List.set_cons_zero, List.set_cons_succ]
          exact RelO.nil
        intro val w8 gW hF
        obtain ⟨h0, h1, h2, h3, h4, h5, h6, h7, h8, h9, h10, h11, h12, h13, hT⟩ := hF
        have e0 : val 0 = .slice (some ⟨b18, 0, none⟩) l.length l.length := h0 _ (Frm.refl _ w8)
        have e1 : val 1 = .int .i64 (j : Int) := h1 _ (Frm.refl _ w8)
        have e2 : val 2 = .int .i64 (kk : Int) := h2 _ (Frm.refl _ w8)
        have e3 : val 3 = .bool true := h3 _ (Frm.refl _ w8)
        have e4 : val 4 = .bool true := h4 _ (Frm.refl _ w8)
        have e5 : val 5 = .slice (some ⟨rg, 0, none⟩) P.length P.length := h5 _ (Frm.refl _ w8)
        have e6 : val 6 = .int .i64 (kk : Int) := h6 _ (Frm.refl _ w8)
        have e7 : val 7 = .pointer (some ⟨rg, kk * 2, none⟩) := h7 _ (Frm.refl _ w8)
        have e8 : val 8 = .pointer (some ⟨rg, kk * 2 + 1, none⟩) := h8 _ (Frm.refl _ w8)
        have e9 : val 9 = .func (.func gf) #[] caps := h9 _ (Frm.refl _ w8)
        have e10 : val 10 = .agg (stv s) := h10 _ (Frm.refl _ w8)
        have e11 : val 11 = .bool q := h11 _ (Frm.refl _ w8)
        have e12 : val 12 = .bool q := h12 _ (Frm.refl _ w8)
        have e13 : val 13 = .pointer (some ⟨b18, j, none⟩) := h13 _ (Frm.refl _ w8)
        clear hT h0 h1 h2 h3 h4 h5 h6 h7 h8 h9 h10 h11 h12 h13
        simp only [aO, Act.put, List.setIfInBounds_toArray, List.set_cons_zero, List.set_cons_succ, Nat.reduceAdd]
        try simp only [e13]
        try simp only [e12]
        try simp only [e11]
        try simp only [e10]
        try simp only [e9]
        try simp only [e8]
        try simp only [e7]
        try simp only [e6]
        try simp only [e5]
        try simp only [e4]
        try simp only [e3]
        try simp only [e2]
        try simp only [e1]
        try simp only [e0]
        try simp only [tupAt]
        refine wpTail.store_bool rfl rfl rfl _ _ rfl b18 j cs q rfl rfl (HBc.out.keep ((HGG.out.trans g7).trans (D.trans gW)) (fun h => h)) (by omega) fun w9 b9 f9 => ?_
        refine wpTail.doneN ?_
        refine hK _ _ ?_
        have F8 := HF.out.trans ((HGG.out.trans g7).trans (D.trans gW))
        have F9 : Frm (fun _ => False) w w9 := F8.next f9 (fun q hq e => by have e : q = b18 := e; have := HB18.out; omega)
        have FB9 : FrB w3 w9 := (HFB.out.trans (.of ((HGG.out.trans g7).trans (D.trans gW)))).trans (f9.mono fun q hq e => by
          have e : q = b18 := e
          subst e
          exact ⟨_, _, HBc.out.keep ((HGG.out.trans g7).trans (D.trans gW)) (fun h => h)⟩)
        have HEND := Lib.hid (And.intro b9 (And.intro FB9 F9))
        clear b9 f9 F8 F9 FB9 gW D hK e0 e1 e2 e3 e4 e5 e6 e7 e8 e9 e10 e11 e12 e13
        go_wp2_with fail
        go_roundw
        case rel =>
          obtain ⟨b9, FB9, F9⟩ := HEND.out
          refine ⟨j + 1, _, hlt, by go_num, b9, by simp [hcs], fun t ht htj => ?_, FB9, F9⟩
          rw [Array.getElem?_setIfInBounds]
          by_cases e : j = t
          · subst e
            rw [if_pos rfl, if_pos (by omega), HS.out, HQ.out]
          · rw [if_neg e]
            exact HDN.out t ht (by omega)
        case measure => simp [intOf]; omega
      · have hone : one9 k ag l now s = false := by
          rw [← HPE.out now s hnow, HD.out, evalR_none s hnone]
        have HQ := Lib.hid hone
        clear hone hnone
        go_upto_region 7 with fail
        rename_i hK
        have D : Frm (fun _ => False) w7 w7.drew := (Frm.refl _ _).drew
        refine wp_region_late 14 1 [] [[], [], [], [2], [3], [4], [4], [4, 5, 6], [4, 7], [4, 8], [4], [4, 9, 10], [4, 11], [0, 1]] kp7fM (kp7fR b18 j l) (by kernel_rfl) rfl rfl rfl (by kernel_rfl) (by kernel_rfl) (by kernel_rfl) (by kernel_rfl) rfl (by kernel_rfl) (by kernel_rfl) (by kernel_rfl) (by kernel_rfl) (fun val => ?_) ?_
        · try simp only [Act.put, List.setIfInBounds_toArray, List.set_cons_zero, List.set_cons_succ]
          refine RelO.next (k' := 1) rfl (fun W gW hF => ?_) ?_
          focus
            refine OpOK.val (u := .slice (some ⟨b18, 0, none⟩) l.length l.length) (by rfl) ?_ (fun W' _ => rfl)
            try simp only [tupAt]
            first | (go_simp; done) | (go_simp; with_reducible rfl) | (go_simp; rfl)
          try simp only [Act.put, List.setIfInBounds_toArray, List.set_cons_zero, List.set_cons_succ]
          refine RelO.next (k' := 2) rfl (fun W gW hF => ?_) ?_
          focus
            refine OpOK.val (u := .int .i64 (j : Int)) (by rfl) ?_ (fun W' _ => rfl)
            try simp only [tupAt]
            first | (go_simp; done) | (go_simp; with_reducible rfl) | (go_simp; rfl)
          try simp only [Act.put, List.setIfInBounds_toArray, List.set_cons_zero, List.set_cons_succ]
          refine RelO.next (k' := 3) rfl (fun W gW hF => ?_) ?_
          focus
            refine OpOK.val (u := .int .i64 (-1)) (by rfl) ?_ (fun W' _ => rfl)
            try simp only [tupAt]
            first | (go_simp; done) | (go_simp; with_reducible rfl) | (go_simp; rfl)
          try simp only [Act.put, List.setIfInBounds_toArray, List.set_cons_zero, List.set_cons_succ]
          refine RelO.next (k' := 4) rfl (fun W gW hF => ?_) ?_
          focus
            obtain ⟨h2, _⟩ := hF
            have e2 : val 2 = .int .i64 (-1) := h2 _ (Frm.refl _ W)
            try simp only [e2]
            try simp only [tupAt]
            refine OpOK.val (u := .bool false) (by rfl) ?_ (fun W' _ => rfl)
            try simp only [e2]
            try simp only [tupAt]
            first | (go_simp; done) | (go_simp; with_reducible rfl) | (go_simp; rfl)
          try simp only [Act.put, List.setIfInBounds_toArray, List.set_cons_zero, List.set_cons_succ]
          refine RelO.next (k' := 5) rfl (fun W gW hF => ?_) ?_
          focus
            obtain ⟨h3, _⟩ := hF
            have e3 : val 3 = .bool false := h3 _ (Frm.refl _ W)
            try simp only [e3]
            try simp only [tupAt]
            refine OpOK.val (u := .bool false) (by rfl) ?_ (fun W' _ => rfl)
            try simp only [e3]
            try simp only [tupAt]
            first | (go_simp; done) | (go_simp; with_reducible rfl) | (go_simp; rfl)
          try simp only [Act.put, List.setIfInBounds_toArray, List.set_cons_zero, List.set_cons_succ]
          refine RelO.next (k' := 6) rfl (fun W gW hF => ?_) ?_
          focus
            obtain ⟨h4, _⟩ := hF
            have e4 : val 4 = .bool false := h4 _ (Frm.refl _ W)
            try simp only [e4]
            try simp only [tupAt]
            exact OpOK.skip (by rfl) (fun W' _ => rfl)
          try simp only [Act.put, List.setIfInBounds_toArray, List.set_cons_zero, List.set_cons_succ]
          refine RelO.next (k' := 7) rfl (fun W gW hF => ?_) ?_
          focus
            obtain ⟨h4, _⟩ := hF
            have e4 : val 4 = .bool false := h4 _ (Frm.refl _ W)
            try simp only [e4]
            try simp only [tupAt]
            exact OpOK.skip (by rfl) (fun W' _ => rfl)
          try simp only [Act.put, List.setIfInBounds_toArray, List.set_cons_zero, List.set_cons_succ]
          refine RelO.next (k' := 8) rfl (fun W gW hF => ?_) ?_
          focus
            obtain ⟨h4, h5, h6, _⟩ := hF
            have e4 : val 4 = .bool false := h4 _ (Frm.refl _ W)
            have e5 : val 5 = undef := h5 _ (Frm.refl _ W)
            have e6 : val 6 = undef := h6 _ (Frm.refl _ W)
            try simp only [e6]
            try simp only [e5]
            try simp only [e4]
            try simp only [tupAt]
            exact OpOK.skip (by rfl) (fun W' _ => rfl)
          try simp only [Act.put, List.setIfInBounds_toArray, List.set_cons_zero, List.set_cons_succ]
          refine RelO.next (k' := 9) rfl (fun W gW hF => ?_) ?_
          focus
            obtain ⟨h4, h7, _⟩ := hF
            have e4 : val 4 = .bool false := h4 _ (Frm.refl _ W)
            have e7 : val 7 = undef := h7 _ (Frm.refl _ W)
            try simp only [e7]
            try simp only [e4]
            try simp only [tupAt]
            exact OpOK.skip (by rfl) (fun W' _ => rfl)
          try simp only [Act.put, List.setIfInBounds_toArray, List.set_cons_zero, List.set_cons_succ]
          refine RelO.next (k' := 10) rfl (fun W gW hF => ?_) ?_
          focus
            obtain ⟨h4, h8, _⟩ := hF
            have e4 : val 4 = .bool false := h4 _ (Frm.refl _ W)
            have e8 : val 8 = undef := h8 _ (Frm.refl _ W)
            try simp only [e8]
            try simp only [e4]
            try simp only [tupAt]
            exact OpOK.skip (by rfl) (fun W' _ => rfl)
          try simp only [Act.put, List.setIfInBounds_toArray, List.set_cons_zero, List.set_cons_succ]
          refine RelO.next (k' := 11) rfl (fun W gW hF => ?_) ?_
          focus
            obtain ⟨h4, _⟩ := hF
            have e4 : val 4 = .bool false := h4 _ (Frm.refl _ W)
            try simp only [e4]
            try simp only [tupAt]
            exact OpOK.skip (by rfl) (fun W' _ => rfl)
          try simp only [Act.put, List.setIfInBounds_toArray, List.set_cons_zero, List.set_cons_succ]
          refine RelO.next (k' := 12) rfl (fun W gW hF => ?_) ?_
          focus
            obtain ⟨h4, h9, h10, _⟩ := hF
            have e4 : val 4 = .bool false := h4 _ (Frm.refl _ W)
            have e9 : val 9 = undef := h9 _ (Frm.refl _ W)
            have e10 : val 10 = undef := h10 _ (Frm.refl _ W)
            try simp only [e10]
            try simp only [e9]
            try simp only [e4]
            try simp only [tupAt]
            exact OpOK.skip (by rfl) (fun W' _ => rfl)
          try simp only [Act.put, List.setIfInBounds_toArray, List.set_cons_zero, List.set_cons_succ]
          refine RelO.next (k' := 13) rfl (fun W gW hF => ?_) ?_
          focus
            obtain ⟨h4, h11, _⟩ := hF
            have e4 : val 4 = .bool false := h4 _ (Frm.refl _ W)
            have e11 : val 11 = undef := h11 _ (Frm.refl _ W)
            try simp only [e11]
            try simp only [e4]
            try simp only [tupAt]
            refine OpOK.val (u := .bool false) (by rfl) ?_ (fun W' _ => rfl)
            try simp only [e11]
            try simp only [e4]
            try simp only [tupAt]
            first | (go_simp; done) | (go_simp; with_reducible rfl) | (go_simp; rfl)
          try simp only [Act.put, List.setIfInBounds_toArray, List.set_cons_zero, List.set_cons_succ]
          refine RelO.next (k' := 14) rfl (fun W gW hF => ?_) ?_
          focus
            obtain ⟨h0, h1, _⟩ := hF
            have e0 : val 0 = .slice (some ⟨b18, 0, none⟩) l.length l.length := h0 _ (Frm.refl _ W)
            have e1 : val 1 = .int .i64 (j : Int) := h1 _ (Frm.refl _ W)
            try simp only [e1]
            try simp only [e0]
            try simp only [tupAt]
            refine OpOK.val (u := .pointer (some ⟨b18, j, none⟩)) (by rfl) ?_ (fun W' _ => rfl)
            try simp only [e1]
            try simp only [e0]
            try simp only [tupAt]
            first | (go_simp; done) | (go_simp; with_reducible rfl) | (go_simp; rfl)
          try simp only [Act.put, List.setIfInBounds_toArray, List.set_cons_zero, List.set_cons_succ]
          exact RelO.nil
        intro val w8 gW hF
        obtain ⟨h0, h1, h2, h3, h4, h5, h6, h7, h8, h9, h10, h11, h12, h13, hT⟩ := hF
        have e0 : val 0 = .slice (some ⟨b18, 0, none⟩) l.length l.length := h0 _ (Frm.refl _ w8)
        have e1 : val 1 = .int .i64 (j : Int) := h1 _ (Frm.refl _ w8)
        have e2 : val 2 = .int .i64 (-1) := h2 _ (Frm.refl _ w8)
        have e3 : val 3 = .bool false := h3 _ (Frm.refl _ w8)
        have e4 : val 4 = .bool false := h4 _ (Frm.refl _ w8)
        have e5 : val 5 = undef := h5 _ (Frm.refl _ w8)
        have e6 : val 6 = undef := h6 _ (Frm.refl _ w8)
        have e7 : val 7 = undef := h7 _ (Frm.refl _ w8)
        have e8 : val 8 = undef := h8 _ (Frm.refl _ w8)
        have e9 : val 9 = undef := h9 _ (Frm.refl _ w8)
        have e10 : val 10 = undef := h10 _ (Frm.refl _ w8)
        have e11 : val 11 = undef := h11 _ (Frm.refl _ w8)
        have e12 : val 12 = .bool false := h12 _ (Frm.refl _ w8)
        have e13 : val 13 = .pointer (some ⟨b18, j, none⟩) := h13 _ (Frm.refl _ w8)
        clear hT h0 h1 h2 h3 h4 h5 h6 h7 h8 h9 h10 h11 h12 h13
        simp only [aO, Act.put, List.setIfInBounds_toArray, List.set_cons_zero, List.set_cons_succ, Nat.reduceAdd]
        try simp only [e13]
        try simp only [e12]
        try simp only [e11]
        try simp only [e10]
        try simp only [e9]
        try simp only [e8]
        try simp only [e7]
        try simp only [e6]
        try simp only [e5]
        try simp only [e4]
        try simp only [e3]
        try simp only [e2]
        try simp only [e1]
        try simp only [e0]
        try simp only [tupAt]
        refine wpTail.store_bool rfl rfl rfl _ _ rfl b18 j cs false rfl rfl (HBc.out.keep ((HGG.out.trans g7).trans (D.trans gW)) (fun h => h)) (by omega) fun w9 b9 f9 => ?_
        refine wpTail.doneN ?_
        refine hK _ _ ?_
        have F8 := HF.out.trans ((HGG.out.trans g7).trans (D.trans gW))
        have F9 : Frm (fun _ => False) w w9 := F8.next f9 (fun q hq e => by have e : q = b18 := e; have := HB18.out; omega)
        have FB9 : FrB w3 w9 := (HFB.out.trans (.of ((HGG.out.trans g7).trans (D.trans gW)))).trans (f9.mono fun q hq e => by
          have e : q = b18 := e
          subst e
          exact ⟨_, _, HBc.out.keep ((HGG.out.trans g7).trans (D.trans gW)) (fun h => h)⟩)
        have HEND := Lib.hid (And.intro b9 (And.intro FB9 F9))
        clear b9 f9 F8 F9 FB9 gW D hK e0 e1 e2 e3 e4 e5 e6 e7 e8 e9 e10 e11 e12 e13
        go_wp2_with fail
        go_roundw
        case rel =>
          obtain ⟨b9, FB9, F9⟩ := HEND.out
          refine ⟨j + 1, _, hlt, by go_num, b9, by simp [hcs], fun t ht htj => ?_, FB9, F9⟩
          rw [Array.getElem?_setIfInBounds]
          by_cases e : j = t
          · subst e
            rw [if_pos rfl, if_pos (by omega), HS.out, HQ.out]
          · rw [if_neg e]
            exact HDN.out t ht (by omega)
        case measure => simp [intOf]; omega
    · obtain rfl : j = l.length := by omega
      go_wp2_with fail
      go_ret
      refine ⟨b18, by rw [show (keep9 k ag l now).length = l.length by simp [keep9]]; rfl, HB18.out, ?_, hF⟩
      have e : cs = bls (keep9 k ag l now) := by
        apply Array.ext
        · rw [bls_size, hcs]; simp [keep9]
        · intro i h1 h2
          have h3 := hdone i (by omega) (by omega)
          have h4 := bls_at (keep9 k ag l now) i (by rw [bls_size] at h2; exact h2)
          rw [Array.getElem?_eq_getElem h1] at h3
          rw [Array.getElem?_eq_getElem h2] at h4
          rw [Option.some.inj h3, Option.some.inj h4]
          simp [keep9]
      rw [← e]
      exact hBc
end Go.Proofs.Ytbmlfhiffooilaa
