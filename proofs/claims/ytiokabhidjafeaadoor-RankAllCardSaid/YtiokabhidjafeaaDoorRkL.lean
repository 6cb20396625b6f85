/- parted: a register's directories, and all else. No condition but that what is handed in leaves all as it lay, and that texts and registers aren't too long. -/
import Derived.Test.YtiokabhidjafeaaDoorRkK
namespace Go.Proofs.YtiokabhidjafeaaDoor
open Go.RowKit Go.Shelf
attribute [local go_sem] Oper.semAt_some

/-- parted's answer: two registers, in memory of their own. -/
def PaTo (f : Nat → Nat) (p : List UInt8 → Bool) (l : List SibI) (w : World) (e : Ending) (w' : World) : Prop :=
  ∃ U : Bool → Value, e = .returned (.tuple #[rg f (U true), rg f (U false)]) ∧ (∀ b, OwnL w' (U b) (l.filter (fun x => p x.s == b))) ∧ Frm (fun _ => False) w w'
theorem four_blks (w : World) (t1 t2 t3 t4 : TypeId) (c1 c2 c3 c4 : Array Value) {W : World} (h : (((w.alloc (.cells c1 t1)).alloc (.cells c2 t2)).alloc (.cells c3 t3)).alloc (.cells c4 t4) = W) :
    Blk W w.heap.size t1 c1 ∧ Blk W (w.heap.size + 1) t2 c2 ∧ Blk W (w.heap.size + 2) t3 c3 ∧ Blk W (w.heap.size + 3) t4 c4 ∧ Frm (fun _ => False) w W ∧ W.heap.size = w.heap.size + 4 := by
  subst h
  have s1 : (w.alloc (.cells c1 t1)).heap.size = w.heap.size + 1 := by simp
  have s2 : ((w.alloc (.cells c1 t1)).alloc (.cells c2 t2)).heap.size = w.heap.size + 2 := by simp
  have s3 : (((w.alloc (.cells c1 t1)).alloc (.cells c2 t2)).alloc (.cells c3 t3)).heap.size = w.heap.size + 3 := by simp
  refine ⟨(((Blk.alloc w t1 c1).old _).old _).old _, ?_, ?_, ?_, (((((Frm.refl _ w).alloc _).alloc _).alloc _).alloc _), by simp⟩
  · rw [← s1]; exact ((Blk.alloc _ t2 c2).old _).old _
  · rw [← s2]; exact (Blk.alloc _ t3 c3).old _
  · rw [← s3]; exact Blk.alloc _ t4 c4
theorem setL_reg (f : Nat → Nat) (v : Value) : setL (rgc f v) 0 (rgc f v).toList = rgc f v := by simp [Go.Proofs.YtiokabhidjafeaaDoor.setL]
theorem rg_one9 (f : Nat → Nat) (a : Option Addr) (n c : Nat) : (rgc f (.slice a n c)).all (·.oneCell') = true := by simp [Value.oneCell']
theorem Blk.there9 {w : World} {b : Nat} {z : Nat → Nat} {v : Value} (h : Blk w b 27 (rgc z v)) : w.there b 0 9 := fun j hj => by
  rw [Nat.zero_add]
  refine ⟨?_, h.free j⟩
  rcases Nat.lt_or_ge j 8 with h8 | h8
  · rcases lt8 h8 with rfl | rfl | rfl | rfl | rfl | rfl | rfl | rfl <;> (rw [h.cell _ rfl]; rfl)
  · obtain rfl : j = 8 := by omega
    rw [h.cell 8 rfl]; rfl
theorem rcells9 {w : World} {b : Nat} {f : Nat → Nat} {v : Value} (h : Blk w b 27 (rgc f v)) : ∀ k, k < 8 → w.cell? ⟨b, k, none⟩ = some (.int .u32 (f k)) := fun k hk => by
  rcases lt8 hk with rfl | rfl | rfl | rfl | rfl | rfl | rfl | rfl <;> exact h.cell _ rfl
theorem wpl_store_reg {ops : Array Oper} {rest : List Oper} {o : Oper} {a : Act} {w : World} {Q : Exit → Act → World → Prop} (hgd : o.guard = none) (hd : o.dst = none) (x y : Operand) (ho : o.op = .store 27 x y)
    (b : Nat) (f : Nat → Nat) (u : Value) (hx : a.eval x = .pointer (some ⟨b, 0, none⟩)) (hy : a.eval y = rg f u) (h : Blk w b 27 (rgc f u)) (h1 : (rgc f u).all (·.oneCell') = true)
    (hK : ∀ w', Blk w' b 27 (rgc f u) → Frm (fun q => q = b) w w' → wpList Tryd.prog ops Q rest a w') : wpList Tryd.prog ops Q (o :: rest) a w := by
  refine wpList_store_mid hgd 27 x y ho b 0 (rgc f u) hx hy (Blk.there9 h) (by show _ = some 9; kernel_rfl) h1 ?_
  rw [hd]
  refine hK _ ?_ (Frm.setL (X := fun q => q = b) _ (fun _ => rfl) _ _ _ (Frm.refl _ w))
  have := Blk.setL (rgc f u).toList 0 w _ h
  rw [setL_reg] at this
  exact this
set_option maxRecDepth 100000 in
set_option maxHeartbeats 8000000 in
theorem parted_any (f : Nat → Nat) (p : List UInt8 → Bool) (v dv : Value) (l : List SibI) (w : World) (h : SL w v l) (hp : DirTo w dv p) (hs : ∀ x ∈ l, x.s.length ≤ 200) (hb : l.length ≤ 1000) : Calls Tryd.prog 51 #[rg f v, dv] w (PaTo f p l w) := by
  have hp' := hp
  obtain ⟨gf, caps, rfl, hen0, _⟩ := hp'
  obtain ⟨a0, c0, rfl, _, _⟩ := h.slice
  have hmf : ∀ (fn : Fn) (first cap : Array Value) (w : World), (Instr.makeFunc fn first cap).run Tryd.prog w = .ok (.func fn first cap) w := fun _ _ _ _ => rfl
  have a3 := Tryd.isAgg27
  have z3 := Tryd.sizeOf27
  have a4 := Tryd.isAgg61
  have z4 := Tryd.sizeOf61
  have HSL : Hid (∀ W, Frm (fun _ => False) w W → SL W (.slice a0 l.length c0) l) := Lib.hid fun W g => h.keepF g
  have HDP : Hid (∀ W, Frm (fun _ => False) w W → DirTo W (.func (.func gf) #[] caps) p) := Lib.hid fun W g => hp.keep g
  clear h hp hen0
  refine (callsIn_wide (n := 9)).1 ?_
  refine callsIn_of_wp_marks Tryd.func51 rfl trivial ?_ rfl
  simp only [Tryd.ntmps51, List.size_toArray, List.length_cons, List.length_nil, Nat.reduceAdd, Nat.reduceSub, Array.replicate_succ, Array.replicate_zero, List.push_toArray, List.append_toArray, List.nil_append, List.cons_append]
  refine wpIn_wide.2 ?_
  refine Code.wp_mono calmR_le ?_
  go_upto_region 1 with fail
  rename_i hKo
  obtain ⟨wz, hwz⟩ : ∃ wz, (((w.alloc (.cells (rgc f (.slice a0 l.length c0)) 27)).alloc (.cells #[.func (.func gf) #[] caps] 58)).alloc (.cells (rgc (fun _ => 0) (.slice none 0 0)) 27)).alloc (.cells (rgc (fun _ => 0) (.slice none 0 0)) 27) = wz := ⟨_, rfl⟩
  obtain ⟨b0, b1, b2, b3, fz, hz⟩ := four_blks w _ _ _ _ _ _ _ _ hwz
  first | rw [hwz] | (simp only [rgc] at hwz; rw [show (0 : Int) = ((0 : Nat) : Int) from rfl, hwz])
  clear hwz
  try simp only [Nat.add_assoc, Nat.reduceAdd]
  refine wp_region_held_drew (S := fun w' : World => (Instr.loadAt 24 (.pointer (some ⟨w.heap.size, 0, none⟩))).run Tryd.prog w' = .ok (.agg (vv f)) w') (by kernel_rfl) (load_ctx b0.drew) (fun hHeld => ?_)
  refine wpAnyH_take (i := 0) (v := ?_) rfl (by kernel_rfl) (by kernel_rfl) (by kernel_rfl) (fun _ _ _ h => h) (Or.inl ⟨by rfl, ?z0⟩) (by assumption) ?_
  case z0 =>
    intro w hSw
    (try dsimp only at hSw)
    go_simp
    try (with_reducible rfl)
  try simp only [Act.put, List.getElem_toArray, List.getElem_cons_zero, List.setIfInBounds_toArray, List.set_cons_zero, List.set_cons_succ]
  refine wpAnyH_take (i := 1) (v := .agg (vv f)) rfl (by kernel_rfl) (by kernel_rfl) (by kernel_rfl) (fun _ _ _ h => h) ?z1 (by assumption) ?_
  case z1 => (refine yieldsIf_load (by rfl) _ (by rfl) ?_ (fun w hs => hs); rfl)
  try simp only [Act.put, List.getElem_toArray, List.getElem_cons_zero, List.getElem_cons_succ, List.setIfInBounds_toArray, List.set_cons_zero, List.set_cons_succ]
  refine wpAnyH_take (i := 2) (v := ?_) rfl (by kernel_rfl) (by kernel_rfl) (by kernel_rfl) (fun _ _ _ h => h) (Or.inl ⟨by rfl, ?z2⟩) (by assumption) ?_
  case z2 =>
    intro w hSw
    (try dsimp only at hSw)
    go_simp
    try (with_reducible rfl)
  try simp only [Act.put, List.getElem_toArray, List.getElem_cons_zero, List.getElem_cons_succ, List.setIfInBounds_toArray, List.set_cons_zero, List.set_cons_succ]
  refine wpAnyH_take (i := 3) (v := .agg (vv f)) rfl (by kernel_rfl) (by kernel_rfl) (by kernel_rfl) (fun _ _ _ h => h) ?z3 (by assumption) ?_
  case z3 => (refine yieldsIf_load (by rfl) _ (by rfl) ?_ (fun w hs => hs); rfl)
  try simp only [Act.put, List.getElem_toArray, List.getElem_cons_zero, List.getElem_cons_succ, List.setIfInBounds_toArray, List.set_cons_zero, List.set_cons_succ]
  refine wpAnyH_take (i := 4) (v := ?_) rfl (by kernel_rfl) (by kernel_rfl) (by kernel_rfl) (fun _ _ _ h => h) (Or.inl ⟨by rfl, ?z4⟩) (by assumption) ?_
  case z4 =>
    intro w hSw
    (try dsimp only at hSw)
    go_simp
    try (with_reducible rfl)
  try simp only [Act.put, List.getElem_toArray, List.getElem_cons_zero, List.getElem_cons_succ, List.setIfInBounds_toArray, List.set_cons_zero, List.set_cons_succ]
  clear hHeld
  have hinfo : (Tryd.prog.info? 24).map (·.size) = some (vv f).size := by show _ = some 8; kernel_rfl
  have hone : (vv f).all (·.oneCell') = true := by simp [Value.oneCell']
  refine wpAnyH_all (rs := [5]) (by kernel_rfl) (by simp) ?_
  intro m hm
  obtain rfl : m = 5 := by simpa using hm
  refine mid_step rfl rfl rfl 24 _ _ rfl (w.heap.size + 2) (vv f) rfl rfl (Blk.there8 b2.drew) hinfo hone ?_
  obtain ⟨w5, hw5⟩ : ∃ w5, wz.drew.setCells (w.heap.size + 2) 0 (vv f).toList = w5 := ⟨_, rfl⟩
  have q5 : Frm (fun q => q = w.heap.size + 2 ∨ q = w.heap.size + 3) wz.drew w5 := hw5 ▸ (Frm.ctx (b := w.heap.size + 2) (f := f)).mono fun _ _ h => .inl h
  have q0 : Frm (fun q => q = w.heap.size + 2) wz.drew w5 := hw5 ▸ Frm.ctx
  have e2 : Blk w5 (w.heap.size + 2) 27 (rgc f (.slice none 0 0)) := hw5 ▸ Blk.ctx b2.drew
  have e3 := b3.drew.keep q0 (by omega)
  rw [hw5]
  clear hw5
  have hHeld : (Instr.loadAt 24 (.pointer (some ⟨w.heap.size, 0, none⟩))).run Tryd.prog w5 = .ok (.agg (vv f)) w5 := load_ctx (b0.drew.keep q5 (by omega))
  refine ⟨hHeld, ?_⟩
  refine wpAnyH_take (i := 6) (v := ?_) rfl (by kernel_rfl) (by kernel_rfl) (by kernel_rfl) (fun _ _ _ h => h) (Or.inl ⟨by rfl, ?z6⟩) (by assumption) ?_
  case z6 =>
    intro w hSw
    (try dsimp only at hSw)
    go_simp
    try (with_reducible rfl)
  try simp only [Act.put, List.getElem_toArray, List.getElem_cons_zero, List.getElem_cons_succ, List.setIfInBounds_toArray, List.set_cons_zero, List.set_cons_succ]
  clear hHeld
  refine wpAnyH_all (rs := [7]) (by kernel_rfl) (by simp) ?_
  intro m hm
  obtain rfl : m = 7 := by simpa using hm
  refine mid_step rfl rfl rfl 24 _ _ rfl (w.heap.size + 3) (vv f) rfl rfl (Blk.there8 e3) hinfo hone ?_
  obtain ⟨w6, hw6⟩ : ∃ w6, w5.setCells (w.heap.size + 3) 0 (vv f).toList = w6 := ⟨_, rfl⟩
  have q6 : Frm (fun q => q = w.heap.size + 3) w5 w6 := hw6 ▸ Frm.ctx
  have c2 := e2.keep q6 (by omega)
  have c3 : Blk w6 (w.heap.size + 3) 27 (rgc f (.slice none 0 0)) := hw6 ▸ Blk.ctx e3
  rw [hw6]
  clear hw6
  have f6 : Frm (fun q => q = w.heap.size + 2 ∨ q = w.heap.size + 3) wz.drew w6 := q5.trans (q6.mono fun _ _ h => .inr h)
  refine ⟨load_ctx (b0.drew.keep f6 (by omega)), wpAnyH_done (by kernel_rfl) ?_ _⟩
  have f06 : Frm (fun _ => False) w w6 := (fz.trans (Frm.refl _ wz).drew).next f6 (fun q hq e => by omega)
  have c0 := b0.drew.keep f6 (by omega)
  have c1 := b1.drew.keep f6 (by omega)
  have hz6 : w6.heap.size ≥ w.heap.size + 4 := by have := f6.size; simp at this; omega
  have lR := load_reg c0
  clear b0 b1 b2 b3 fz f6 hz e2 e3 q0 q5 q6
  refine hKo _ _ ?_
  clear hKo
  go_wp2_with (first | ((with_reducible refine wpl_load rfl _ rfl ?_ lR ?_); (focus rfl)) | fail)
  refine (sall_any f _ l _ (HSL.out _ f06) (by omega)).mono ?_
  rintro e w1 ⟨B, v', rfl, hBn, bB, hs1, hv1, g1⟩
  have d1 := c1.keep g1 (fun h => h)
  have d2 := c2.keep g1 (fun h => h)
  have d3 := c3.keep g1 (fun h => h)
  have f01 := f06.trans g1
  have hz1 : w.heap.size + 4 ≤ w1.heap.size := Nat.le_trans hz6 g1.size
  clear c0 c1 c2 c3 lR f06
  obtain ⟨a1, c1, rfl, _, _⟩ := hs1.slice
  go_wp2_with fail
  refine (wpIn_wide (n := 9)).1 ?_
  have hKo : ∀ q, (q = B ∨ Go.Proofs.YtiokabhidjafeaaDoor.blkOf (.slice a1 l.length c1) = some q) → w.heap.size + 4 ≤ q ∧ q < w1.heap.size := fun q hq => by
    rcases hq with rfl | hq
    · exact ⟨by omega, bB.lt⟩
    · have := hv1 q hq; exact ⟨by omega, this.2.2⟩
  obtain ⟨BB, hBB⟩ : ∃ BB : Bool → Nat, BB = fun b => if b then w.heap.size + 2 else w.heap.size + 3 := ⟨_, rfl⟩
  have hBt : BB true = w.heap.size + 2 := by rw [hBB]; rfl
  have hBf : BB false = w.heap.size + 3 := by rw [hBB]; rfl
  have hBl : ∀ b, w.heap.size + 2 ≤ BB b ∧ BB b < w.heap.size + 4 := fun b => by cases b <;> omega
  clear hBB
  refine range_gives rfl (by omega) (gf := 60) (lb := #[.pointer (some ⟨B, 0, none⟩)]) rfl trivial (enters_of Tryd.func60 (by kernel_rfl) rfl)
    (sall_gives B _ l (fun q => q = B ∨ Go.Proofs.YtiokabhidjafeaaDoor.blkOf (.slice a1 l.length c1) = some q) w1 bB hs1 (fun q hq => (hKo q hq).2) (fun g e => .inr e) hs) (fun q hq => (hKo q hq).2) (fun _ => rfl)
    (PaI w1 BB f p) (fun _ _ _ h g => h.tw g) ⟨⟨fun _ => .slice none 0 0, (fun b => match b with | true => (by rw [hBt]; exact d2) | false => (by rw [hBf]; exact d3)), fun b => OwnL.nil_ _, fun b g e => (by cases e), fun b g e => (by cases e)⟩, Frm.refl _ _⟩ ?round ?done
  case round =>
    rintro l1 pre x W0 W1 hl hrec hi f0 hx hlen
    have hpl : pre.length ≤ 100000 := by omega
    have hsz0 : w1.heap.size ≤ W0.heap.size := hi.frm.size
    have hsz1 := f0.size
    gi_wp2
    refine ⟨((KeepsOthers.alloc _ _).trans (KeepsOthers.alloc _ _)).from _, fun W3 hT => ?_⟩
    have k1 : (W1.alloc (.cells #[.int .u8 x.r, .int .u32 x.n] 61)).heap.size = W1.heap.size + 1 := by simp
    have d2 : Blk W3 W1.heap.size 61 #[.int .u8 x.r, .int .u32 x.n] := hT.blk ((Blk.alloc W1 _ _).old _)
    have v2 : Blk W3 (W1.heap.size + 1) 9 #[.string (bs x.s)] := hT.blk (by rw [← k1]; exact Blk.alloc _ _ _)
    have f12 : Frm (fun _ => False) W1 ((W1.alloc (.cells #[.int .u8 x.r, .int .u32 x.n] 61)).alloc (.cells #[.string (bs x.s)] 9)) := ((Frm.refl _ W1).alloc _).alloc _
    have h13 : Tw w1.heap.size W1 W3 := (Tw.old f12).trans hT
    have hi3 : PaI w1 BB f p pre W3 := (hi.tw (Tw.old f0)).tw h13
    have b1 : Blk W3 (w.heap.size + 1) 58 #[.func (.func gf) #[] caps] := d1.keep (h13.frm (hi.frm.trans (f0.mono fun _ _ h => h.elim)) (Nat.le_refl _)) (fun e => by obtain ⟨b, e⟩ := e; have := hBl b; omega)
    have fw3 : Frm (fun _ => False) w W3 := by
      have f1 := h13.frm (hi.frm.trans (f0.mono fun _ _ h => h.elim)) (Nat.le_refl _)
      exact f01.next f1 (fun q hq e => by obtain ⟨b, e⟩ := e; have := hBl b; omega)
    have HH := Lib.hid (holds_any 76 #[.pointer (some ⟨w.heap.size + 1, 0, none⟩), .pointer (some ⟨W1.heap.size + 1, 0, none⟩)] (p x.s) W3 (enters_of Tryd.func76 (by kernel_rfl) rfl) (parted1_any (w.heap.size + 1) (W1.heap.size + 1) x.s _ p W3 b1 v2 (HDP.out W3 fw3) hx))
    have HI := Lib.hid hi
    have HF0 := Lib.hid f0
    have HD2 := Lib.hid d2
    have HV2 := Lib.hid v2
    have H13 := Lib.hid h13
    clear hi f0 d2 v2 h13 hi3 b1 fw3 f12 hT hrec
    gi_wp2_with fail
    refine ⟨trivial, (CallsIn.inRound l1 (callsIn_wide.2 HH.out)).mono ?_⟩
    rintro e W5 ⟨rfl, f35⟩
    have HBD : Hid (∀ W, Frm (fun _ => False) W5 W → Blk W W1.heap.size 61 #[.int .u8 x.r, .int .u32 x.n]) := Lib.hid fun W g => HD2.out.keep (f35.trans g) (fun h => h)
    have HBV : Hid (∀ W, Frm (fun _ => False) W5 W → Blk W (W1.heap.size + 1) 9 #[.string (bs x.s)]) := Lib.hid fun W g => HV2.out.keep (f35.trans g) (fun h => h)
    cases hc : p x.s with
    | true =>
      obtain ⟨ai, ni, ki, bi, happ⟩ := pa_app (K := fun q => q = B ∨ Go.Proofs.YtiokabhidjafeaaDoor.blkOf (.slice a1 l.length c1) = some q) (D := W1.heap.size) (V := W1.heap.size + 1) HI.out (fun b => by have := hBl b; omega) (fun b => by cases b <;> simp [hBt, hBf]) HF0.out (Nat.le_refl _) (by omega) H13.out f35 (HBD.out W5 (Frm.refl _ _)) (HBV.out W5 (Frm.refl _ _)) (fun q hq => ⟨(hKo q hq).2, fun b e => by have := (hKo q hq).1; have := hBl b; omega⟩) hpl hc
      rw [hBt] at bi happ
      have HAPP := Lib.hid happ
      have HBI : Hid (∀ W, Frm (fun _ => False) W5 W → Blk W (w.heap.size + 2) 27 (rgc f (.slice ai ni ki))) := Lib.hid fun W g => bi.keep g (fun h => h)
      clear bi happ hc
      gi_wp2_with fail
      refine wpIn_region_plain (by kernel_rfl) (by kernel_rfl) (by rintro ⟨_, _, h⟩; exact h) ?_
      refine wpAny_of_held (S := fun w' : World => w'.cell? ⟨W1.heap.size, 0, none⟩ = some (.int .u8 x.r) ∧ w'.cell? ⟨W1.heap.size, 1, none⟩ = some (.int .u32 x.n) ∧ w'.cell? ⟨W1.heap.size + 1, 0, none⟩ = some (.string (bs x.s))) _ _ _ _ ?_
      obtain ⟨WD, hWD⟩ : ∃ WD, W5.drew = WD := ⟨_, rfl⟩
      have gD : Frm (fun _ => False) W5 WD := hWD ▸ (Frm.refl _ W5).drew
      have bd := HBD.out WD gD
      have bv := HBV.out WD gD
      have bi := HBI.out WD gD
      have hHeld : WD.cell? ⟨W1.heap.size, 0, none⟩ = some (.int .u8 x.r) ∧ WD.cell? ⟨W1.heap.size, 1, none⟩ = some (.int .u32 x.n) ∧ WD.cell? ⟨W1.heap.size + 1, 0, none⟩ = some (.string (bs x.s)) := ⟨bd.cell 0 rfl, bd.cell 1 rfl, bv.cell 0 rfl⟩
      have c8 : WD.cell? ⟨w.heap.size + 2, 8, none⟩ = some (.slice ai ni ki) := bi.cell 8 rfl
      rw [hWD]
      clear hWD
      refine wpAnyH_take (i := 0) (v := ?_) rfl (by kernel_rfl) (by kernel_rfl) (by kernel_rfl) (fun _ _ _ h => h) (Or.inl ⟨by rfl, ?z0⟩) (by assumption) ?_
      case z0 =>
        intro w hSw
        (try dsimp only at hSw)
        go_simp
        try (with_reducible rfl)
      try simp only [Act.put, List.getElem_toArray, List.getElem_cons_zero, List.setIfInBounds_toArray, List.set_cons_zero, List.set_cons_succ]
      refine wpAnyH_take (i := 1) (v := ?_) rfl (by kernel_rfl) (by kernel_rfl) (by kernel_rfl) (fun _ _ _ h => h) (Or.inl ⟨by rfl, ?z1⟩) (by assumption) ?_
      case z1 =>
        intro w hSw
        (try dsimp only at hSw)
        go_simp
        try (with_reducible rfl)
      try simp only [Act.put, List.getElem_toArray, List.getElem_cons_zero, List.getElem_cons_succ, List.setIfInBounds_toArray, List.set_cons_zero, List.set_cons_succ]
      refine wpAnyH_take (i := 2) (v := ?_) rfl (by kernel_rfl) (by kernel_rfl) (by kernel_rfl) (fun _ _ _ h => h) (Or.inl ⟨by rfl, ?z2⟩) (by assumption) ?_
      case z2 =>
        intro w hSw
        (try dsimp only at hSw)
        go_simp
        try (with_reducible rfl)
      try simp only [Act.put, List.getElem_toArray, List.getElem_cons_zero, List.getElem_cons_succ, List.setIfInBounds_toArray, List.set_cons_zero, List.set_cons_succ]
      refine wpAnyH_take (i := 3) (v := ?_) rfl (by kernel_rfl) (by kernel_rfl) (by kernel_rfl) (fun _ _ _ h => h) (Or.inl ⟨by rfl, ?z3⟩) (by assumption) ?_
      case z3 =>
        intro w hSw
        (try dsimp only at hSw)
        go_simp
        try (with_reducible rfl)
      try simp only [Act.put, List.getElem_toArray, List.getElem_cons_zero, List.getElem_cons_succ, List.setIfInBounds_toArray, List.set_cons_zero, List.set_cons_succ]
      refine wpAnyH_take (i := 5) (v := ?_) rfl (by kernel_rfl) (by kernel_rfl) (by kernel_rfl) (fun _ _ _ h => h) (Or.inl ⟨by rfl, ?z5⟩) (by assumption) ?_
      case z5 =>
        intro w hSw
        (try dsimp only at hSw)
        go_simp
        try (with_reducible rfl)
      try simp only [Act.put, List.getElem_toArray, List.getElem_cons_zero, List.getElem_cons_succ, List.setIfInBounds_toArray, List.set_cons_zero, List.set_cons_succ]
      refine wpAnyH_take (i := 6) (v := ?_) rfl (by kernel_rfl) (by kernel_rfl) (by kernel_rfl) (fun _ _ _ h => h) (Or.inl ⟨by rfl, ?z6⟩) (by assumption) ?_
      case z6 =>
        intro w hSw
        (try dsimp only at hSw)
        go_simp
        try (with_reducible rfl)
      try simp only [Act.put, List.getElem_toArray, List.getElem_cons_zero, List.getElem_cons_succ, List.setIfInBounds_toArray, List.set_cons_zero, List.set_cons_succ]
      refine wpAnyH_take (i := 7) (v := ?_) rfl (by kernel_rfl) (by kernel_rfl) (by kernel_rfl) (fun _ _ _ h => h) (Or.inl ⟨by rfl, ?z7⟩) (by assumption) ?_
      case z7 =>
        intro w hSw
        (try dsimp only at hSw)
        go_simp
        try (with_reducible rfl)
      try simp only [Act.put, List.getElem_toArray, List.getElem_cons_zero, List.getElem_cons_succ, List.setIfInBounds_toArray, List.set_cons_zero, List.set_cons_succ]
      refine wpAnyH_ready (rs := [4, 8]) (by kernel_rfl) (by simp) (AllReadyH.cons rfl (fun K hK => ?_) (AllReadyH.cons rfl (fun K hK => ?_) AllReadyH.nil))
      · go_simp
        refine hK.out _ _ hHeld (fun _ => ?_)
        clear hK K
        try simp only [Act.put, List.getElem_toArray, List.getElem_cons_zero, List.getElem_cons_succ, List.setIfInBounds_toArray, List.set_cons_zero, List.set_cons_succ]
        refine wpAnyH_ready (rs := [8]) (by kernel_rfl) (by simp) (AllReadyH.cons rfl (fun K hK => ?_) AllReadyH.nil)
        go_simp
        refine hK.out _ _ ⟨Frm.cellA hHeld.1, Frm.cellA hHeld.2.1, Frm.cellA hHeld.2.2⟩ (fun _ => ?_)
        clear hK K
        try simp only [Act.put, List.getElem_toArray, List.getElem_cons_zero, List.getElem_cons_succ, List.setIfInBounds_toArray, List.set_cons_zero, List.set_cons_succ]
        have gA : Frm (fun _ => False) WD (WD.alloc (.cells #[.int .u8 x.r, .int .u32 x.n, .string (bs x.s)] 63)) := (Frm.refl _ _).alloc _
        obtain ⟨a9, n9, c9, W6, hrun, hS6, hc6, hfin⟩ := HAPP.out WD gD
        have Hrun := Lib.hid hrun
        have HFIN := Lib.hid hfin
        clear hrun hfin gA bd bv bi c8
        refine wpAnyH_ready (rs := [9]) (by kernel_rfl) (by simp) (AllReadyH.cons rfl (fun K hK => ?_) AllReadyH.nil)
        refine step_append_runR rfl _ _ _ _ rfl _ _ (by rfl) (by rfl) _ W6 Hrun.out ?_
        refine hK.out _ _ hS6 (fun hHeld => ?_)
        clear hK K
        try simp only [Act.put, List.getElem_toArray, List.getElem_cons_zero, List.getElem_cons_succ, List.setIfInBounds_toArray, List.set_cons_zero, List.set_cons_succ]
        refine wpAnyH_take (i := 10) (v := ?_) rfl (by kernel_rfl) (by kernel_rfl) (by kernel_rfl) (fun _ _ _ h => h) (Or.inl ⟨by rfl, ?z10⟩) (by assumption) ?_
        case z10 =>
          intro w hSw
          (try dsimp only at hSw)
          go_simp
          try (with_reducible rfl)
        try simp only [Act.put, List.getElem_toArray, List.getElem_cons_zero, List.getElem_cons_succ, List.setIfInBounds_toArray, List.set_cons_zero, List.set_cons_succ]
        refine wpAnyH_take (i := 11) (v := ?_) rfl (by kernel_rfl) (by kernel_rfl) (by kernel_rfl) (fun _ _ _ h => h) (Or.inl ⟨by rfl, ?z11⟩) (by assumption) ?_
        case z11 =>
          intro w hSw
          (try dsimp only at hSw)
          go_simp
          try (with_reducible rfl)
        try simp only [Act.put, List.getElem_toArray, List.getElem_cons_zero, List.getElem_cons_succ, List.setIfInBounds_toArray, List.set_cons_zero, List.set_cons_succ]
        refine wpAnyH_ready (rs := [12]) (by kernel_rfl) (by simp) (AllReadyH.cons rfl (fun K hK => ?_) AllReadyH.nil)
        have cS := hc6.1
        have fS := hc6.2
        go_simp
        refine hK.out _ _ ?_ (fun _ => ?_)
        · exact HFIN.out.1
        clear hK K cS fS
        refine wpAnyH_done (by kernel_rfl) ?_ _
        exact HFIN.out.2
      · go_simp
        refine hK.out _ _ ⟨Frm.cellA hHeld.1, Frm.cellA hHeld.2.1, Frm.cellA hHeld.2.2⟩ (fun _ => ?_)
        clear hK K
        try simp only [Act.put, List.getElem_toArray, List.getElem_cons_zero, List.getElem_cons_succ, List.setIfInBounds_toArray, List.set_cons_zero, List.set_cons_succ]
        have c8b := Frm.cellA (o := .cells #[.int .u8 x.r, .int .u32 x.n, .string (bs x.s)] 63) c8
        refine wpAnyH_ready (rs := [4]) (by kernel_rfl) (by simp) (AllReadyH.cons rfl (fun K hK => ?_) AllReadyH.nil)
        go_simp
        refine hK.out _ _ ⟨Frm.cellA hHeld.1, Frm.cellA hHeld.2.1, Frm.cellA hHeld.2.2⟩ (fun _ => ?_)
        clear hK K c8b
        try simp only [Act.put, List.getElem_toArray, List.getElem_cons_zero, List.getElem_cons_succ, List.setIfInBounds_toArray, List.set_cons_zero, List.set_cons_succ]
        have gA : Frm (fun _ => False) WD (WD.alloc (.cells #[.int .u8 x.r, .int .u32 x.n, .string (bs x.s)] 63)) := (Frm.refl _ _).alloc _
        obtain ⟨a9, n9, c9, W6, hrun, hS6, hc6, hfin⟩ := HAPP.out WD gD
        have Hrun := Lib.hid hrun
        have HFIN := Lib.hid hfin
        clear hrun hfin gA bd bv bi c8
        refine wpAnyH_ready (rs := [9]) (by kernel_rfl) (by simp) (AllReadyH.cons rfl (fun K hK => ?_) AllReadyH.nil)
        refine step_append_runR rfl _ _ _ _ rfl _ _ (by rfl) (by rfl) _ W6 Hrun.out ?_
        refine hK.out _ _ hS6 (fun hHeld => ?_)
        clear hK K
        try simp only [Act.put, List.getElem_toArray, List.getElem_cons_zero, List.getElem_cons_succ, List.setIfInBounds_toArray, List.set_cons_zero, List.set_cons_succ]
        refine wpAnyH_take (i := 10) (v := ?_) rfl (by kernel_rfl) (by kernel_rfl) (by kernel_rfl) (fun _ _ _ h => h) (Or.inl ⟨by rfl, ?z10⟩) (by assumption) ?_
        case z10 =>
          intro w hSw
          (try dsimp only at hSw)
          go_simp
          try (with_reducible rfl)
        try simp only [Act.put, List.getElem_toArray, List.getElem_cons_zero, List.getElem_cons_succ, List.setIfInBounds_toArray, List.set_cons_zero, List.set_cons_succ]
        refine wpAnyH_take (i := 11) (v := ?_) rfl (by kernel_rfl) (by kernel_rfl) (by kernel_rfl) (fun _ _ _ h => h) (Or.inl ⟨by rfl, ?z11⟩) (by assumption) ?_
        case z11 =>
          intro w hSw
          (try dsimp only at hSw)
          go_simp
          try (with_reducible rfl)
        try simp only [Act.put, List.getElem_toArray, List.getElem_cons_zero, List.getElem_cons_succ, List.setIfInBounds_toArray, List.set_cons_zero, List.set_cons_succ]
        refine wpAnyH_ready (rs := [12]) (by kernel_rfl) (by simp) (AllReadyH.cons rfl (fun K hK => ?_) AllReadyH.nil)
        have cS := hc6.1
        have fS := hc6.2
        go_simp
        refine hK.out _ _ ?_ (fun _ => ?_)
        · exact HFIN.out.1
        clear hK K cS fS
        refine wpAnyH_done (by kernel_rfl) ?_ _
        exact HFIN.out.2
    | false =>
      obtain ⟨ai, ni, ki, bi, happ⟩ := pa_app (K := fun q => q = B ∨ Go.Proofs.YtiokabhidjafeaaDoor.blkOf (.slice a1 l.length c1) = some q) (D := W1.heap.size) (V := W1.heap.size + 1) HI.out (fun b => by have := hBl b; omega) (fun b => by cases b <;> simp [hBt, hBf]) HF0.out (Nat.le_refl _) (by omega) H13.out f35 (HBD.out W5 (Frm.refl _ _)) (HBV.out W5 (Frm.refl _ _)) (fun q hq => ⟨(hKo q hq).2, fun b e => by have := (hKo q hq).1; have := hBl b; omega⟩) hpl hc
      rw [hBf] at bi happ
      have HAPP := Lib.hid happ
      have HBI : Hid (∀ W, Frm (fun _ => False) W5 W → Blk W (w.heap.size + 3) 27 (rgc f (.slice ai ni ki))) := Lib.hid fun W g => bi.keep g (fun h => h)
      clear bi happ hc
      gi_wp2_with fail
      refine wpIn_region_plain (by kernel_rfl) (by kernel_rfl) (by rintro ⟨_, _, h⟩; exact h) ?_
      refine wpAny_of_held (S := fun w' : World => w'.cell? ⟨W1.heap.size, 0, none⟩ = some (.int .u8 x.r) ∧ w'.cell? ⟨W1.heap.size, 1, none⟩ = some (.int .u32 x.n) ∧ w'.cell? ⟨W1.heap.size + 1, 0, none⟩ = some (.string (bs x.s))) _ _ _ _ ?_
      obtain ⟨WD, hWD⟩ : ∃ WD, W5.drew = WD := ⟨_, rfl⟩
      have gD : Frm (fun _ => False) W5 WD := hWD ▸ (Frm.refl _ W5).drew
      have bd := HBD.out WD gD
      have bv := HBV.out WD gD
      have bi := HBI.out WD gD
      have hHeld : WD.cell? ⟨W1.heap.size, 0, none⟩ = some (.int .u8 x.r) ∧ WD.cell? ⟨W1.heap.size, 1, none⟩ = some (.int .u32 x.n) ∧ WD.cell? ⟨W1.heap.size + 1, 0, none⟩ = some (.string (bs x.s)) := ⟨bd.cell 0 rfl, bd.cell 1 rfl, bv.cell 0 rfl⟩
      have c8 : WD.cell? ⟨w.heap.size + 3, 8, none⟩ = some (.slice ai ni ki) := bi.cell 8 rfl
      rw [hWD]
      clear hWD
      refine wpAnyH_take (i := 0) (v := ?_) rfl (by kernel_rfl) (by kernel_rfl) (by kernel_rfl) (fun _ _ _ h => h) (Or.inl ⟨by rfl, ?z0⟩) (by assumption) ?_
      case z0 =>
        intro w hSw
        (try dsimp only at hSw)
        go_simp
        try (with_reducible rfl)
      try simp only [Act.put, List.getElem_toArray, List.getElem_cons_zero, List.setIfInBounds_toArray, List.set_cons_zero, List.set_cons_succ]
      refine wpAnyH_take (i := 1) (v := ?_) rfl (by kernel_rfl) (by kernel_rfl) (by kernel_rfl) (fun _ _ _ h => h) (Or.inl ⟨by rfl, ?z1⟩) (by assumption) ?_
      case z1 =>
        intro w hSw
        (try dsimp only at hSw)
        go_simp
        try (with_reducible rfl)
      try simp only [Act.put, List.getElem_toArray, List.getElem_cons_zero, List.getElem_cons_succ, List.setIfInBounds_toArray, List.set_cons_zero, List.set_cons_succ]
      refine wpAnyH_take (i := 2) (v := ?_) rfl (by kernel_rfl) (by kernel_rfl) (by kernel_rfl) (fun _ _ _ h => h) (Or.inl ⟨by rfl, ?z2⟩) (by assumption) ?_
      case z2 =>
        intro w hSw
        (try dsimp only at hSw)
        go_simp
        try (with_reducible rfl)
      try simp only [Act.put, List.getElem_toArray, List.getElem_cons_zero, List.getElem_cons_succ, List.setIfInBounds_toArray, List.set_cons_zero, List.set_cons_succ]
      refine wpAnyH_take (i := 3) (v := ?_) rfl (by kernel_rfl) (by kernel_rfl) (by kernel_rfl) (fun _ _ _ h => h) (Or.inl ⟨by rfl, ?z3⟩) (by assumption) ?_
      case z3 =>
        intro w hSw
        (try dsimp only at hSw)
        go_simp
        try (with_reducible rfl)
      try simp only [Act.put, List.getElem_toArray, List.getElem_cons_zero, List.getElem_cons_succ, List.setIfInBounds_toArray, List.set_cons_zero, List.set_cons_succ]
      refine wpAnyH_take (i := 5) (v := ?_) rfl (by kernel_rfl) (by kernel_rfl) (by kernel_rfl) (fun _ _ _ h => h) (Or.inl ⟨by rfl, ?z5⟩) (by assumption) ?_
      case z5 =>
        intro w hSw
        (try dsimp only at hSw)
        go_simp
        try (with_reducible rfl)
      try simp only [Act.put, List.getElem_toArray, List.getElem_cons_zero, List.getElem_cons_succ, List.setIfInBounds_toArray, List.set_cons_zero, List.set_cons_succ]
      refine wpAnyH_take (i := 6) (v := ?_) rfl (by kernel_rfl) (by kernel_rfl) (by kernel_rfl) (fun _ _ _ h => h) (Or.inl ⟨by rfl, ?z6⟩) (by assumption) ?_
      case z6 =>
        intro w hSw
        (try dsimp only at hSw)
        go_simp
        try (with_reducible rfl)
      try simp only [Act.put, List.getElem_toArray, List.getElem_cons_zero, List.getElem_cons_succ, List.setIfInBounds_toArray, List.set_cons_zero, List.set_cons_succ]
      refine wpAnyH_take (i := 7) (v := ?_) rfl (by kernel_rfl) (by kernel_rfl) (by kernel_rfl) (fun _ _ _ h => h) (Or.inl ⟨by rfl, ?z7⟩) (by assumption) ?_
      case z7 =>
        intro w hSw
        (try dsimp only at hSw)
        go_simp
        try (with_reducible rfl)
      try simp only [Act.put, List.getElem_toArray, List.getElem_cons_zero, List.getElem_cons_succ, List.setIfInBounds_toArray, List.set_cons_zero, List.set_cons_succ]
      refine wpAnyH_ready (rs := [4, 8]) (by kernel_rfl) (by simp) (AllReadyH.cons rfl (fun K hK => ?_) (AllReadyH.cons rfl (fun K hK => ?_) AllReadyH.nil))
      · go_simp
        refine hK.out _ _ hHeld (fun _ => ?_)
        clear hK K
        try simp only [Act.put, List.getElem_toArray, List.getElem_cons_zero, List.getElem_cons_succ, List.setIfInBounds_toArray, List.set_cons_zero, List.set_cons_succ]
        refine wpAnyH_ready (rs := [8]) (by kernel_rfl) (by simp) (AllReadyH.cons rfl (fun K hK => ?_) AllReadyH.nil)
        go_simp
        refine hK.out _ _ ⟨Frm.cellA hHeld.1, Frm.cellA hHeld.2.1, Frm.cellA hHeld.2.2⟩ (fun _ => ?_)
        clear hK K
        try simp only [Act.put, List.getElem_toArray, List.getElem_cons_zero, List.getElem_cons_succ, List.setIfInBounds_toArray, List.set_cons_zero, List.set_cons_succ]
        have gA : Frm (fun _ => False) WD (WD.alloc (.cells #[.int .u8 x.r, .int .u32 x.n, .string (bs x.s)] 63)) := (Frm.refl _ _).alloc _
        obtain ⟨a9, n9, c9, W6, hrun, hS6, hc6, hfin⟩ := HAPP.out WD gD
        have Hrun := Lib.hid hrun
        have HFIN := Lib.hid hfin
        clear hrun hfin gA bd bv bi c8
        refine wpAnyH_ready (rs := [9]) (by kernel_rfl) (by simp) (AllReadyH.cons rfl (fun K hK => ?_) AllReadyH.nil)
        refine step_append_runR rfl _ _ _ _ rfl _ _ (by rfl) (by rfl) _ W6 Hrun.out ?_
        refine hK.out _ _ hS6 (fun hHeld => ?_)
        clear hK K
        try simp only [Act.put, List.getElem_toArray, List.getElem_cons_zero, List.getElem_cons_succ, List.setIfInBounds_toArray, List.set_cons_zero, List.set_cons_succ]
        refine wpAnyH_take (i := 10) (v := ?_) rfl (by kernel_rfl) (by kernel_rfl) (by kernel_rfl) (fun _ _ _ h => h) (Or.inl ⟨by rfl, ?z10⟩) (by assumption) ?_
        case z10 =>
          intro w hSw
          (try dsimp only at hSw)
          go_simp
          try (with_reducible rfl)
        try simp only [Act.put, List.getElem_toArray, List.getElem_cons_zero, List.getElem_cons_succ, List.setIfInBounds_toArray, List.set_cons_zero, List.set_cons_succ]
        refine wpAnyH_take (i := 11) (v := ?_) rfl (by kernel_rfl) (by kernel_rfl) (by kernel_rfl) (fun _ _ _ h => h) (Or.inl ⟨by rfl, ?z11⟩) (by assumption) ?_
        case z11 =>
          intro w hSw
          (try dsimp only at hSw)
          go_simp
          try (with_reducible rfl)
        try simp only [Act.put, List.getElem_toArray, List.getElem_cons_zero, List.getElem_cons_succ, List.setIfInBounds_toArray, List.set_cons_zero, List.set_cons_succ]
        refine wpAnyH_ready (rs := [12]) (by kernel_rfl) (by simp) (AllReadyH.cons rfl (fun K hK => ?_) AllReadyH.nil)
        have cS := hc6.1
        have fS := hc6.2
        go_simp
        refine hK.out _ _ ?_ (fun _ => ?_)
        · exact HFIN.out.1
        clear hK K cS fS
        refine wpAnyH_done (by kernel_rfl) ?_ _
        exact HFIN.out.2
      · go_simp
        refine hK.out _ _ ⟨Frm.cellA hHeld.1, Frm.cellA hHeld.2.1, Frm.cellA hHeld.2.2⟩ (fun _ => ?_)
        clear hK K
        try simp only [Act.put, List.getElem_toArray, List.getElem_cons_zero, List.getElem_cons_succ, List.setIfInBounds_toArray, List.set_cons_zero, List.set_cons_succ]
        have c8b := Frm.cellA (o := .cells #[.int .u8 x.r, .int .u32 x.n, .string (bs x.s)] 63) c8
        refine wpAnyH_ready (rs := [4]) (by kernel_rfl) (by simp) (AllReadyH.cons rfl (fun K hK => ?_) AllReadyH.nil)
        go_simp
        refine hK.out _ _ ⟨Frm.cellA hHeld.1, Frm.cellA hHeld.2.1, Frm.cellA hHeld.2.2⟩ (fun _ => ?_)
        clear hK K c8b
        try simp only [Act.put, List.getElem_toArray, List.getElem_cons_zero, List.getElem_cons_succ, List.setIfInBounds_toArray, List.set_cons_zero, List.set_cons_succ]
        have gA : Frm (fun _ => False) WD (WD.alloc (.cells #[.int .u8 x.r, .int .u32 x.n, .string (bs x.s)] 63)) := (Frm.refl _ _).alloc _
        obtain ⟨a9, n9, c9, W6, hrun, hS6, hc6, hfin⟩ := HAPP.out WD gD
        have Hrun := Lib.hid hrun
        have HFIN := Lib.hid hfin
        clear hrun hfin gA bd bv bi c8
        refine wpAnyH_ready (rs := [9]) (by kernel_rfl) (by simp) (AllReadyH.cons rfl (fun K hK => ?_) AllReadyH.nil)
        refine step_append_runR rfl _ _ _ _ rfl _ _ (by rfl) (by rfl) _ W6 Hrun.out ?_
        refine hK.out _ _ hS6 (fun hHeld => ?_)
        clear hK K
        try simp only [Act.put, List.getElem_toArray, List.getElem_cons_zero, List.getElem_cons_succ, List.setIfInBounds_toArray, List.set_cons_zero, List.set_cons_succ]
        refine wpAnyH_take (i := 10) (v := ?_) rfl (by kernel_rfl) (by kernel_rfl) (by kernel_rfl) (fun _ _ _ h => h) (Or.inl ⟨by rfl, ?z10⟩) (by assumption) ?_
        case z10 =>
          intro w hSw
          (try dsimp only at hSw)
          go_simp
          try (with_reducible rfl)
        try simp only [Act.put, List.getElem_toArray, List.getElem_cons_zero, List.getElem_cons_succ, List.setIfInBounds_toArray, List.set_cons_zero, List.set_cons_succ]
        refine wpAnyH_take (i := 11) (v := ?_) rfl (by kernel_rfl) (by kernel_rfl) (by kernel_rfl) (fun _ _ _ h => h) (Or.inl ⟨by rfl, ?z11⟩) (by assumption) ?_
        case z11 =>
          intro w hSw
          (try dsimp only at hSw)
          go_simp
          try (with_reducible rfl)
        try simp only [Act.put, List.getElem_toArray, List.getElem_cons_zero, List.getElem_cons_succ, List.setIfInBounds_toArray, List.set_cons_zero, List.set_cons_succ]
        refine wpAnyH_ready (rs := [12]) (by kernel_rfl) (by simp) (AllReadyH.cons rfl (fun K hK => ?_) AllReadyH.nil)
        have cS := hc6.1
        have fS := hc6.2
        go_simp
        refine hK.out _ _ ?_ (fun _ => ?_)
        · exact HFIN.out.1
        clear hK K cS fS
        refine wpAnyH_done (by kernel_rfl) ?_ _
        exact HFIN.out.2
  case done =>
    rintro D xs W hD rfl hi hK
    obtain ⟨U, hb1, ho, hlo, _⟩ := hi.res
    have HLO := Lib.hid hlo
    clear hlo
    have hT : Tw w1.heap.size W (W.putObj D (.deferred none)) := Tw.put _ hD hK rfl
    have hf2 : Frm (fun _ => False) w (W.putObj D (.deferred none)) := (f01.next hi.frm (fun q hq e => by obtain ⟨b, e⟩ := e; have := hBl b; omega)).next hT (fun q hq e => by have := e.1; omega)
    have ho2 : ∀ b, OwnL (W.putObj D (.deferred none)) (U b) (xs.filter (fun x => p x.s == b)) := fun b => hT.row (ho b)
    obtain ⟨at1, ct1, et1, _, _⟩ := Row.slice (ho true)
    obtain ⟨at2, ct2, et2, _, _⟩ := Row.slice (ho false)
    have r2 : Blk W (w.heap.size + 2) 27 (rgc f (U true)) := by rw [← hBt]; exact hb1 true
    have r3 : Blk W (w.heap.size + 3) 27 (rgc f (U false)) := by rw [← hBf]; exact hb1 false
    have o2 : (rgc f (U true)).all (·.oneCell') = true := by rw [et1]; exact rg_one9 _ _ _ _
    have o3 : (rgc f (U false)).all (·.oneCell') = true := by rw [et2]; exact rg_one9 _ _ _ _
    have HO2 := Lib.hid o2
    have HO3 := Lib.hid o3
    have HU2 : Hid (∀ b, Row W 3 (U b) (xs.filter (fun x => p x.s == b)).length (flat sibc (xs.filter (fun x => p x.s == b)))) := Lib.hid ho
    have HFR := Lib.hid hi.frm
    obtain ⟨p2, hp2⟩ : ∃ p2, w.heap.size + 2 = p2 := ⟨_, rfl⟩
    obtain ⟨p3, hp3⟩ : ∃ p3, w.heap.size + 3 = p3 := ⟨_, rfl⟩
    rw [hp2] at r2 ⊢
    rw [hp3] at r3 ⊢
    have l2 := load_reg r2
    have l3 := load_reg r3
    have HR2 := Lib.hid r2
    have HR3 := Lib.hid r3
    have HP2 := Lib.hid hp2
    have HP3 := Lib.hid hp3
    have HF01 := Lib.hid f01
    have HKK := Lib.hid hK
    have HBl := Lib.hid hBl
    clear ho hi r2 r3 hT hf2 ho2 hb1 et1 et2 o2 o3 hp2 hp3 hKo hBl f01 g1 hK d1 d2 d3
    go_wp2_with (first
      | ((with_reducible refine wpl_load rfl _ rfl ?_ l2 ?_); (focus rfl))
      | ((with_reducible refine wpl_load rfl _ rfl ?_ l3 ?_); (focus rfl))
      | ((with_reducible refine wpl_store_reg rfl rfl _ _ rfl p2 f (U true) ?_ ?_ HR2.out HO2.out ?_); (focus rfl); (focus rfl); intro w5 e5 g5)
      | ((with_reducible refine wpl_store_reg rfl rfl _ _ rfl p3 f (U false) ?_ ?_ (Blk.keep HR3.out g5 (by have := HP2.out; have := HP3.out; omega)) HO3.out ?_); (focus rfl); (focus rfl); intro W2 t3 g6))
    try simp only [Act.put, List.setIfInBounds_toArray, List.set_cons_zero, List.set_cons_succ]
    refine calmR_ret ?_
    have hp2 := HP2.out
    have hp3 := HP3.out
    have hBl := HBl.out
    have f01 := HF01.out
    have hK := HKK.out
    have t2 : Blk W2 p2 27 (rgc f (U true)) := Blk.keep e5 g6 (by omega)
    have q23 : Frm (fun q => q = p2 ∨ q = p3) W W2 := (g5.mono fun _ _ h => .inl h).trans (g6.mono fun _ _ h => .inr h)
    have hK2 := q23.obj hK (by omega)
    have hT2 : Tw w1.heap.size W2 (W2.putObj D (.deferred none)) := Tw.put _ hD hK2 rfl
    have u2 := hT2.blk t2
    have u3 := hT2.blk t3
    have ho3 : ∀ b, OwnL (W2.putObj D (.deferred none)) (U b) (xs.filter (fun x => p x.s == b)) := fun b => hT2.row (Row.keep (HU2.out b) q23 (fun g e h => by
      have := HLO.out b g e
      omega))
    have hf3 : Frm (fun _ => False) w (W2.putObj D (.deferred none)) := ((f01.next HFR.out (fun q hq e => by obtain ⟨b, e⟩ := e; have := hBl b; omega)).next q23 (fun q hq e => by omega)).next hT2 (fun q hq e => by have := e.1; omega)
    have c28 := u2.cell 8 rfl
    have c38 := u3.cell 8 rfl
    have e2 := rcells9 u2
    have e3 := rcells9 u3
    refine ⟨by simp, .inl ⟨_, _, rfl, run_takeDeferred hK2, ?_⟩⟩
    refine ⟨.tuple #[rg f (U true), rg f (U false)], (by simp [results, Tryd.results51, go_sem, e2, e3, c28, c38]), ?_⟩
    exact ⟨U, rfl, ho3, hf3⟩
end Go.Proofs.YtiokabhidjafeaaDoor

