/- What Flush does. No condition. -/
import Derived.Test.YtfbaleomhghjeaaGreatDvH
import Derived.Maps.RangeWalk
namespace Go.Proofs.YtfbaleomhghjeaaGreat
open Go.RowKit Go.Shelf

section
variable {P : Program} {k : TypeId} {R : Value → Option (DataW Unit × List MemPlace)} {w w' : World} {b r n : Nat} {D : DataW Unit} {left : Lit → Bool} {cnt : Nat}
theorem ranges_keepB (h : w.ranges P k R b r n D left cnt) (e1 : w'.heap[b]? = w.heap[b]?) (e2 : w'.heap[r]? = w.heap[r]?) : w'.ranges P k R b r n D left cnt := by
  obtain ⟨es, clock, since, seen, c0, hb, F, hs, hD, hr, rest⟩ := h
  exact ⟨es, clock, since, seen, c0, e1.trans hb, F, hs, hD, e2.trans hr, rest⟩
theorem ranges_keep {X : Nat → Prop} (h : w.ranges P k R b r n D left cnt) (hf : Frm X w w') (h1 : ¬ X b) (h2 : ¬ X r) : w'.ranges P k R b r n D left cnt :=
  ranges_keepB h (hf.block b h.owns.lt h1) (hf.block r h.lt h2)
end
theorem frm_grown {w w' : World} {row : Option Nat} (h : w.grownBy w' row) : Frm (fun k => row = some k) w w' :=
  ⟨h.os, h.tape, h.output, h.size, fun k hk hn => h.block k hk fun e => hn e.symm⟩
section
variable {ops : Array Oper} {rest : List Oper} {o : Oper} {a : Act} {w : World} {Q : Exit → Act → World → Prop}
theorem wpl_next_blk (hg : o.guard = none) (it : Operand) (hop : o.op = Op.next it false) (b r m n : Nat) (E : DataW Unit) (G : Nat → Option (List UInt8)) (hE : MapD E n G) (left : Lit → Bool) (cnt : Nat)
    (hit : a.eval it = .pointer (some ⟨r, 0, none⟩)) (h : w.ranges Tryz.prog 3 blkElem b r m E left cnt)
    (hDone : (∀ k : Nat, left (.int .i64 (k : Int)) = false) → wpList Tryz.prog ops Q rest (a.put o.dst (.tuple #[.bool false])) w)
    (hMore : ∀ (k : Nat) (l : List UInt8) (w' : World) (cnt' : Nat), k < n → G k = some l → l.length = 64 → w'.ranges Tryz.prog 3 blkElem b r m E (fun z => left z && !z.sameKey (.int .i64 (k : Int))) cnt' → cnt' < cnt →
      Frm (· = r) w w' → w'.heap.size = w.heap.size → (Instr.entry (.pointer (some ⟨r, 0, none⟩))).run Tryz.prog w' = .ok (.tuple #[.int .i64 (k : Int), bkv l]) w' → wpList Tryz.prog ops Q rest (a.put o.dst (.tuple #[.bool true, .int .i64 (k : Int), bkv l])) w') :
    wpList Tryz.prog ops Q (o :: rest) a w := by
  refine wpList_next_ranges w hg it hop 3 int_keyed1 blkElem (Value.int .i64) (fun l : List UInt8 => bkv l) (fun key kl hkey => by obtain ⟨x, rfl, _⟩ := Go.Maps.keyOf_int_inv Tryz.underlying3 hkey; exact ⟨x, rfl⟩) (fun v y hv => by obtain ⟨l, rfl, _⟩ := blkElem_any hv; exact ⟨l, rfl⟩)
    b r m E left cnt hit h (fun _ hl => hDone fun k => hl _) ?_
  intro x c kl y w' cnt' hkey hlk hv hat hrg hlt hgr hsz hen
  obtain ⟨x', ex, rfl, hwx⟩ := Go.Maps.keyOf_int_inv Tryz.underlying3 hkey
  cases ex
  have hhas := Go.Maps.has_true_of_atKey hat
  obtain ⟨k, hkn, e⟩ := hE.keys _ hhas
  simp only [Lit.int.injEq, true_and] at e
  subst e
  obtain ⟨l, e1, h64, rfl⟩ := blkElem_any hv
  have ec : c = l := u8s_inj (by
    have := congrArg (fun v : Value => match v with | .agg cs => cs.toList | _ => []) e1
    exact this)
  subst ec
  have hG : (G k).isSome = true := (hE.has k).symm.trans hhas
  obtain ⟨l', hl'⟩ := Option.isSome_iff_exists.1 hG
  have hval := (hE.val k l' hl').2 (.lit (.string []))
  rw [hat] at hval
  have e2 : c = l' := by
    simp only [DataW.lit.injEq, Lit.string.injEq] at hval
    exact hval
  rw [← e2] at hl'
  exact hMore k c w' cnt' hkn hl' h64 hrg hlt ((frm_grown hgr).mono fun j _ hj => by cases hj; rfl) hsz hen
end

/-- The firm bytes on the way: those blocks that are no more to come have their fresh ones. -/
def DV.onWay (D : DV) (left : Lit → Bool) : DV := ⟨D.n, fun k => if (D.X k).isSome && !left (.int .i64 (k : Int)) then D.read k else D.F k, D.X⟩
theorem DV.onWay_done {D : DV} {left : Lit → Bool} (h : ∀ k : Nat, left (.int .i64 (k : Int)) = false) : D.onWay left = ⟨D.n, D.read, D.X⟩ := by
  unfold DV.onWay
  congr 1
  funext k
  rw [h k]
  cases e : D.X k with
  | none => simp [DV.read, e]
  | some l => simp
theorem DV.onWay_step {D : DV} {left : Lit → Bool} {k : Nat} {l : List UInt8} (h : D.X k = some l) : (⟨D.n, fun j => if j = k then l else (D.onWay left).F j, D.X⟩ : DV) = D.onWay fun z => left z && !z.sameKey (.int .i64 (k : Int)) := by
  unfold DV.onWay
  congr 1
  funext j
  by_cases e : j = k
  · subst e
    have : (Lit.int .i64 (j : Int)).sameKey (.int .i64 (j : Int)) = true := by simp [Lit.sameKey]
    simp [h, this, DV.read]
  · have : (Lit.int .i64 (j : Int)).sameKey (.int .i64 (k : Int)) = false := Go.Maps.sameKey_ne (fun h => e (by simp only [Lit.int.injEq, true_and] at h; omega))
    simp [e, this]
set_option maxRecDepth 100000 in
set_option maxHeartbeats 4000000 in
theorem flush_any (b f x : Nat) (D : DV) (w : World) (h : DevM w b f x D) :
    Calls Tryz.prog 75 #[.pointer (some ⟨b, 0, none⟩)] w fun e w' => e = .returned (.int .i64 (D.fresh.length : Nat)) ∧ DevM w' b f x D.flush ∧ Frm (fun k => k = f ∨ k = x) w w' := by
  have c3 := h.xc
  have HM := Lib.hid (dmade_any b f x D w h)
  have hlt := h.lt
  have hn := Lib.hid h.ok.hi
  obtain ⟨m, E, hown, hE⟩ := h.fresh
  have HE := Lib.hid hE
  have HO := Lib.hid hown
  have H := Lib.hid h
  clear h hown hE
  go_enter Tryz.func75, Tryz.ntmps75
  go_wp2_with fail
  refine HM.out.mono ?_
  rintro e w1 ⟨rfl, rfl⟩
  go_wp2_with (first
    | (at_len; refine wpl_len_blk rfl _ rfl x D.n D.X rfl H.out.fresh ?_)
    | (at_range; refine wpList_range_own _ rfl _ 73 rfl 3 112 int_keyed1 Tryz.underlying73 _ x m E rfl HO.out ?_; intro w0 hrg0 hg0 hs0)
    | fail)
  go_frame
  obtain ⟨R, hR⟩ : ∃ R, w.heap.size = R := ⟨_, rfl⟩
  have g00 : Frm (fun _ => False) w w0 := (frm_grown hg0).mono fun j _ hj => by cases hj
  rw [hR] at hrg0 hs0 ⊢
  have HR := Lib.hid hR
  clear hg0
  go_loopw [19] (fun _ wr => ∃ (left : Lit → Bool) (cnt : Nat), wr.ranges Tryz.prog 3 blkElem x R m E left cnt ∧ DevM wr b f x (D.onWay left) ∧ Frm (· = f) w wr) (fun _ wr => wr.rangeLeft x R)
  case atStart =>
    refine ⟨_, _, hrg0, ?_, g00.mono fun _ _ h => h.elim⟩
    have h0 := H.out.keepF g00
    have e : D.onWay (Go.Maps.has E) = D := by
      unfold DV.onWay
      have : (fun k => if (D.X k).isSome && !Go.Maps.has E (.int .i64 (k : Int)) then D.read k else D.F k) = D.F := by
        funext k
        rw [HE.out.has k]
        cases D.X k <;> simp
      rw [this]
    rw [e]
    exact h0
  case round =>
    obtain ⟨left, cnt, hrg, hd, gw⟩ := hrel
    have hlx : R < wr.heap.size := hrg.lt
    have HD := Lib.hid hd
    have GW := Lib.hid gw
    have HRG := Lib.hid hrg
    clear hd gw
    go_wp2_with (first
      | (at_next; refine wpl_next_blk rfl _ rfl x R m D.n E D.X HE.out left cnt rfl hrg ?_ ?_)
      | fail)
    · intro hl0
      have hdd := HD.out
      rw [DV.onWay_done hl0] at hdd
      have c5 := hdd.xc
      go_wp2_with (first
        | (refine wpl_clear_blk rfl _ rfl x D.n D.X rfl hdd.fresh ?_; intro w5 hm5 hg5 hs5)
        | fail)
      go_ret
      have g5 : Frm (fun k => k = f ∨ k = x) w w5 := (GW.out.mono fun _ _ h => .inl h).trans (hg5.mono fun _ _ h => .inr h)
      exact ⟨rfl, ⟨hdd.blk.keep hg5 hdd.bx, hdd.firm.keep hg5 hdd.fx, hm5, hdd.bf, hdd.bx, hdd.fx, H.out.ok.flush⟩, g5⟩
    · intro k l w1 cnt1 hkn hX h64 hrg1 hlt1 hg1 hs1 hen
      clear hrg
      have hb0 : b ≠ R ∧ f ≠ R ∧ x ≠ R := by have := HR.out; omega
      have h1 := HD.out.keep hg1 hb0.1 hb0.2.1 hb0.2.2
      have bl := Blk.alloc w1 112 (u8s zb).toArray
      have ga : Frm (fun _ => False) w1 (w1.alloc (.cells (u8s zb).toArray 112)) := (Frm.refl _ w1).alloc _
      have hlt1 := h1.lt
      have hrlt := hrg1.lt
      have H1 := Lib.hid (And.intro (h1.keepF ga) (ranges_keep hrg1 ga (fun h => h) (fun h => h)))
      have hfz : (D.onWay left).n = D.n := rfl
      clear h1 hrg1 hs1
      go_wp2_with (first
        | (refine wpl_store_bytes rfl (.tmp 5) (.tmp 23) rfl w1.heap.size l zb rfl rfl bl zb_len h64 ?_; intro w2 hm2 hg2 hs2)
        | (refine wpl_load_blk rfl (.tmp 5) rfl w1.heap.size l rfl hm2 h64 ?_)
        | fail)
      have h2 := H1.out.1.keep hg2 (by omega) (by omega) (by omega)
      have r2 := ranges_keep H1.out.2 hg2 (by omega) (by omega)
      refine (settle_any b f x k l (D.onWay left) w2 h2 hkn h64).mono ?_
      rintro e w3 ⟨rfl, h3, g3⟩
      have e3 : (⟨(D.onWay left).n, fun j => if j = k then l else (D.onWay left).F j, (D.onWay left).X⟩ : DV) = D.onWay fun z => left z && !z.sameKey (.int .i64 (k : Int)) := DV.onWay_step hX
      rw [e3] at h3
      have r3 := ranges_keep r2 g3 (Ne.symm h2.fx) (by omega)
      have hw3 : Frm (· = f) w w3 := by
        have hsz := GW.out.size
        have a1 := GW.out.next (hg1.mono fun _ _ h => h) fun j hj e => by have := HR.out; omega
        have a2 := a1.trans (ga.mono fun _ _ h => h.elim)
        have a3 := a2.next hg2 fun j hj e => by omega
        exact a3.trans g3
      go_wp2_with fail
      go_roundw
      case rel => exact ⟨_, cnt1, r3, h3, hw3⟩
      case measure => rw [r3.left_eq, HRG.out.left_eq]; omega
end Go.Proofs.YtfbaleomhghjeaaGreat

