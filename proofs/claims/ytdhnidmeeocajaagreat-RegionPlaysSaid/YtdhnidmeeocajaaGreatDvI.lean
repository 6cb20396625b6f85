/- What New, Copy, Fresh do. No condition. -/
import Derived.Test.YtdhnidmeeocajaaGreatDvF
import Derived.Test.YtdhnidmeeocajaaGreatShelf
import Derived.Lib.SlKeysI
import Derived.Deep.RegionHeld3
import Derived.Maps.RangeWalk
section
namespace Go.Proofs.YtdhnidmeeocajaaGreat
open Go.RowKit Go.Shelf

/-- What New answers. -/
def NewTo (n : Int) (w : World) (e : Ending) (w' : World) : Prop :=
  if 256 ≤ n ∧ n ≤ 2048 then ∃ v, e = .returned v ∧ NewDev (DV.new n.toNat) w v w' else e = .returned (.pointer none) ∧ w = w'
set_option maxRecDepth 100000 in
set_option maxHeartbeats 1000000 in
theorem new_any (n : Int) (w : World) : Calls Tryz.prog 10 #[.int .i64 n] w (NewTo n w) := by
  unfold NewTo
  by_cases h1 : n < 256
  · have hc : ¬ (256 ≤ n ∧ n ≤ 2048) := by omega
    simp only [hc, if_false]
    clear hc
    go_enter Tryz.func10, Tryz.ntmps10
    go_wp2_with fail
    go_ret
    exact ⟨rfl, rfl⟩
  · by_cases h2 : 2048 < n
    · have hc : ¬ (256 ≤ n ∧ n ≤ 2048) := by omega
      simp only [hc, if_false]
      clear hc
      go_enter Tryz.func10, Tryz.ntmps10
      go_wp2_with fail
      go_ret
      exact ⟨rfl, rfl⟩
    · have hc : 256 ≤ n ∧ n ≤ 2048 := by omega
      simp only [hc, and_self, if_true]
      clear hc
      obtain ⟨k, rfl⟩ : ∃ k : Nat, n = (k : Int) := ⟨n.toNat, by omega⟩
      rw [show ((k : Int)).toNat = k from rfl]
      have m1 := MapB.made w k
      have m2 := MapB.made (w.alloc (.map #[] 0)) k
      have g1 : Frm (fun _ => False) w (w.alloc (.map #[] 0)) := (Frm.refl _ w).alloc _
      have g2 : Frm (fun _ => False) (w.alloc (.map #[] 0)) ((w.alloc (.map #[] 0)).alloc (.map #[] 0)) := (Frm.refl _ _).alloc _
      have hok : (DV.new k).ok := DV.ok_new (by omega) (by omega)
      have hsz : (w.alloc (.map #[] 0)).heap.size = w.heap.size + 1 := by simp
      rw [hsz] at m2
      have hne : w.heap.size ≠ w.heap.size + 1 := by omega
      have HB := Lib.hid (build_any w.heap.size (w.heap.size + 1) (DV.new k) ((w.alloc (.map #[] 0)).alloc (.map #[] 0)) hok ((m1.keep g2 (fun h => h)).congr fun j => by simp [DV.firmG, DV.new]) m2 hne)
      have HG := Lib.hid (And.intro (g1.trans g2) hsz)
      clear m1 m2 g1 g2 hok hne hsz
      have hmm := fun w => run_makeMap (P := Tryz.prog) 73 w
      go_enter Tryz.func10, Tryz.ntmps10
      go_wp2_with fail
      refine HB.out.mono ?_
      rintro e w3 ⟨rfl, h3, g3⟩
      go_wp2_with fail
      go_ret
      have hs := HG.out.2
      have hs2 : ((w.alloc (.map #[] 0)).alloc (.map #[] 0)).heap.size = w.heap.size + 1 + 1 := by simp
      rw [hs2] at h3
      exact ⟨_, rfl, _, _, _, rfl, h3, by omega, by omega, by omega, HG.out.1.trans g3⟩

/-- A slice of ints that the call holds by itself. -/
def OwnZ (w : World) (v : Value) (l : List Int) : Prop := Row w 1 v l.length (zcs l)
theorem OwnZ.zs {w : World} {v : Value} {l : List Int} (h : OwnZ w v l) : Zs w v l := Sl.ofRow h
theorem OwnZ.keepF {w w' : World} {v : Value} {l : List Int} (h : OwnZ w v l) (hf : Frm (fun _ => False) w w') : OwnZ w' v l := Row.keep h hf (fun _ _ h => h)
theorem Row.ofOwns {w : World} {base : Nat} {e : TypeId} {size n : Nat} {v : Value} {xs : List Value} (h : w.ownsRow base e size v n xs) : Row w size v n xs ∧ ∀ g, v.ownBlock = some g → base ≤ g := by
  obtain ⟨h1, ⟨rfl, rfl⟩ | ⟨g, cap, cur, rfl, h2, h3, h4, h5, h6, h7⟩⟩ := h
  · exact ⟨⟨h1, .inl ⟨rfl, rfl⟩⟩, fun g hg => by cases hg⟩
  · have hb : Blk w g e cur := h3
    have hm := Nat.mul_le_mul_right size h4
    refine ⟨⟨h1, .inr ⟨g, cap, rfl, h4, h5, ⟨_, h3, rfl⟩, fun j hj => ?_, fun j hj => ⟨?_, hb.free j⟩⟩⟩, fun g' hg => by cases hg; exact h2⟩
    · have hj' : j < cur.size := by omega
      rw [hb.cell j (v := cur[j]) (by simp [hj']), ← h7, List.getElem?_take, if_pos hj]
      simp [hj']
    · have hj' : j < cur.size := by omega
      rw [hb.cell j (v := cur[j]) (by simp [hj'])]
      rfl
theorem sorted_fresh (D : DV) {ss : List Int} (h : ss.Perm (D.fresh.map Int.ofNat)) : ss.mergeSort (fun x y => decide (x ≤ y)) = D.fresh.map Int.ofNat := by
  rw [mergeSort_of_perm_i h]
  refine List.mergeSort_of_pairwise (List.pairwise_map.2 (D.fresh_sorted.imp fun {a b} hab => ?_))
  simp only [leI, decide_eq_true_eq, Int.ofNat_eq_natCast]
  omega
theorem sortsD (m : Nat) : AnyZI.SortsIn Tryz.prog Tryz.sortedD_ren Fence.wide m :=
  ⟨fun blk off cap ss W hH hblk hsz => callsIn_wide.2 (AnyM.slices_Sort_int Tryz.sortD blk off cap ss W hH hblk hsz),
   fun p cap W => callsIn_wide.2 (AnyM.slices_Sort_int_none Tryz.sortD p cap W)⟩
theorem keysD_any (mb : Option Nat) (W : World) :
    Calls Tryz.prog 117 #[.map mb] W fun e w' => e = .returned (.func (.func 136) #[] #[.pointer (some ⟨W.heap.size, 0, none⟩)]) ∧ w' = W.alloc (.cells #[.map mb] 73) :=
  (callsIn_wide (n := 5)).1 (AnyZI.keys_in Tryz.keysD Fence.wide 5 trivial rfl mb W)
set_option maxRecDepth 100000 in
theorem sortedD_any (q x : Nat) (D : DV) (W : World) (hq : q < W.heap.size) (c0 : W.cell? ⟨q, 0, none⟩ = some (.map (some x))) (h : MapB W x D.n D.X) (hok : D.ok) :
    Calls Tryz.prog 116 #[.func (.func 136) #[] #[.pointer (some ⟨q, 0, none⟩)]] W fun e w' => ∃ v, e = .returned v ∧ OwnZ w' v (D.fresh.map Int.ofNat) ∧ (∀ g, v.ownBlock = some g → W.heap.size ≤ g) ∧ Frm (fun _ => False) W w' := by
  obtain ⟨m, E, h1, h2⟩ := h
  have hi := hok.hi
  have hsz := h2.size h1
  have hseq : SeqGives Fence.wide 2 Tryz.prog 136 #[.pointer (some ⟨q, 0, none⟩)] encZ (fun ss => ss.Perm (intKeys E)) (Go.Maps.size E) W :=
    AnyZI.keys_gives (ρ := Tryz.keysD_ren) { Tryz.keysD with } Fence.wide _ trivial rfl (by omega) q x m E W hq c0 h1
  have cS := AnyZI.sorted_in Tryz.sortedD Fence.wide 5 trivial trivial trivial trivial rfl (by omega) (sortsD _) (enters_of Tryz.func135 (by kernel_rfl) rfl) 136 #[.pointer (some ⟨q, 0, none⟩)] trivial (enters_of Tryz.func136 (by kernel_rfl) rfl) _ _ (by unfold maxLen; omega) (by omega) W hseq
  refine ((callsIn_wide (n := 5)).1 cS).mono ?_
  rintro e w' ⟨v, ss, rfl, hS, hrow, hnil, hb⟩
  have hp : ss.Perm (D.fresh.map Int.ofNat) := hS.trans (h2.keysP h1)
  rw [sorted_fresh D hp, hp.length_eq] at hrow
  obtain ⟨r1, r2⟩ := Row.ofOwns hrow
  exact ⟨v, rfl, r1, r2, (Frm.ofBelow hb).mono fun k hk h => by omega⟩

/-- What Fresh answers. -/
def FreshTo (D : DV) (w : World) (e : Ending) (w' : World) : Prop := ∃ v, e = .returned v ∧ OwnZ w' v (D.fresh.map Int.ofNat) ∧ (∀ g, v.ownBlock = some g → w.heap.size ≤ g) ∧ Frm (fun _ => False) w w'
set_option maxRecDepth 100000 in
set_option maxHeartbeats 1000000 in
theorem fresh_any (b f x : Nat) (D : DV) (w : World) (h : DevM w b f x D) :
    Calls Tryz.prog 84 #[.pointer (some ⟨b, 0, none⟩)] w (FreshTo D w) := by
  have c3 := h.xc
  have HM := Lib.hid (dmade_any b f x D w h)
  have H := Lib.hid h
  have HK := Lib.hid (fun mb W => keysD_any mb W)
  clear h
  go_enter Tryz.func84, Tryz.ntmps84
  go_wp2_with fail
  refine HM.out.mono ?_
  rintro e w1 ⟨rfl, rfl⟩
  go_wp2_with fail
  refine (HK.out _ _).mono ?_
  rintro e w1 ⟨rfl, rfl⟩
  have hb := Blk.alloc w 73 #[.map (some x)]
  have g : Frm (fun _ => False) w (w.alloc (.cells #[.map (some x)] 73)) := (Frm.refl _ w).alloc _
  have HS := Lib.hid (sortedD_any w.heap.size x D _ hb.lt (hb.cell 0 rfl) (H.out.fresh.keep g (fun h => h)) H.out.ok)
  have G := Lib.hid (And.intro g hb.lt)
  clear hb g
  go_wp2_with fail
  refine HS.out.mono ?_
  rintro e w2 ⟨v, rfl, h1, h2, h3⟩
  go_wp2_with fail
  go_ret
  have g := G.out.1
  exact ⟨v, rfl, h1, fun q hq => by have := h2 q hq; have := g.size; omega, g.trans h3⟩
end Go.Proofs.YtdhnidmeeocajaaGreat
end
section
namespace Go.Proofs.YtdhnidmeeocajaaGreat
open Go.RowKit Go.Shelf

theorem dFrm_cell {w w' : World} {a : Addr} {v : Value} (h : Frm (fun _ => False) w w') (c : w.cell? a = some v) : w'.cell? a = some v := by
  have hb : a.block < w.heap.size := World.block_lt_of_cell? w _ c
  rw [World.cell?_of_block (h.block a.block hb (fun h => h))]
  exact c
theorem surv_pos {cs : List Int} {i : Nat} (h : cs.length ≠ 0) (q : Int) (hq : cs[i % cs.length]? = some q) : surv cs i = min (q % 66).toNat 64 := by
  unfold surv
  rw [if_neg h, List.getD_eq_getElem?_getD, hq]
  rfl
set_option maxRecDepth 100000 in
set_option maxHeartbeats 2000000 in
theorem surv_any (v : Value) (cs : List Int) (i : Nat) (w : World) (h : Zs w v cs) (hz : ∀ z ∈ cs, Z64 z) (hi : i ≤ 1000000) (hl : cs.length ≤ 1000000) :
    Calls Tryz.prog 85 #[v, .int .i64 (i : Int)] w fun e w' => e = .returned (.int .i64 (surv cs i : Nat)) ∧ w = w' := by
  obtain ⟨a, cap, rfl, h1, h2⟩ := h.slice
  unfold maxLen at h2
  by_cases h0 : cs.length = 0
  · have hs : surv cs i = 0 := by unfold surv; rw [if_pos h0]
    rw [hs]
    have hd : decide ((cs.length : Int) = 0) = true := decide_eq_true (by omega)
    have hd2 : ((cs.length : Int) == 0) = true := by rw [beq_iff_eq]; omega
    go_enter Tryz.func85, Tryz.ntmps85
    go_wp2_with fail
    go_ret
    exact ⟨rfl, rfl⟩
  · have hd2 : ((cs.length : Int) == 0) = false := by rw [beq_eq_false_iff_ne]; omega
    obtain ⟨j, hj⟩ : ∃ j, i % cs.length = j := ⟨_, rfl⟩
    have hjl : j < cs.length := by rw [← hj]; exact Nat.mod_lt _ (by omega)
    have t1 : (i : Int) % (cs.length : Int) = (j : Int) := by rw [← hj]; omega
    have t1' : (i : Int).tmod (cs.length : Int) = (j : Int) := by rw [Int.tmod_eq_emod_of_nonneg (by omega)]; exact t1
    have t3 : IntKind.i64.wrap (j : Int) = (j : Int) := by rw [IntKind.wrap_i64]; omega
    obtain ⟨q, hq⟩ : ∃ q, cs[j] = q := ⟨_, rfl⟩
    have hs := surv_pos h0 q (by rw [hj, List.getElem?_eq_getElem hjl, hq])
    rw [hs]
    obtain ⟨g, off, rfl, hg, c0⟩ := h.at j hjl
    rw [hq] at c0
    have hqz : Z64 q := hq ▸ hz _ (List.getElem_mem hjl)
    obtain ⟨hq1, hq2⟩ := hqz
    obtain ⟨r, hr⟩ : ∃ r, q.tmod 66 = r := ⟨_, rfl⟩
    have hb1 : r < 66 := by rw [← hr]; exact Int.tmod_lt_of_pos _ (by decide)
    have hb2 : -66 < r := by rw [← hr]; exact Int.lt_tmod_of_pos _ (by decide)
    have he : q % 66 = if r < 0 then r + 66 else r := by
      have := Int.tmod_eq_emod (a := q) (b := 66)
      rw [hr] at this
      have h66 : (66 : Int).natAbs = 66 := rfl
      have hm : 0 ≤ q % 66 := Int.emod_nonneg _ (by decide)
      have hm2 : q % 66 < 66 := Int.emod_lt_of_pos _ (by decide)
      split at this
      · rw [if_neg (by omega)]; omega
      · rename_i hnd
        have : q % 66 ≠ 0 := fun e => hnd (.inr (Int.dvd_of_emod_eq_zero e))
        rw [if_pos (by omega)]; omega
    have w1 : IntKind.i64.wrap r = r := by rw [IntKind.wrap_i64]; omega
    clear hj hq hs
    rw [he]
    clear he
    by_cases hn : r < 0
    · have w2 : IntKind.i64.wrap (r + 66) = r + 66 := by rw [IntKind.wrap_i64]; omega
      rw [if_pos hn]
      have hm : min (r + 66) 64 = ((min (r + 66).toNat 64 : Nat) : Int) := by omega
      go_enter Tryz.func85, Tryz.ntmps85
      go_wp2_with fail
      go_ret
      exact ⟨rfl, rfl⟩
    · rw [if_neg hn]
      have hm : min r 64 = ((min r.toNat 64 : Nat) : Int) := by omega
      go_enter Tryz.func85, Tryz.ntmps85
      go_wp2_with fail
      go_ret
      exact ⟨rfl, rfl⟩
end Go.Proofs.YtdhnidmeeocajaaGreat
end
section
namespace Go.Proofs.YtdhnidmeeocajaaGreat
open Go.RowKit Go.Shelf

section
variable {P : Program} {k : TypeId} {R : Value → Option (DataW Unit × List MemPlace)} {w w' : World} {b r n : Nat} {D : DataW Unit} {left : Lit → Bool} {cnt : Nat}
theorem ranges_keepB (h : w.ranges P k R b r n D left cnt) (e1 : w'.heap[b]? = w.heap[b]?) (e2 : w'.heap[r]? = w.heap[r]?) : w'.ranges P k R b r n D left cnt := by
  obtain ⟨es, clock, since, seen, c0, hb, F, hs, hD, hr, rest⟩ := h
  exact ⟨es, clock, since, seen, c0, e1.trans hb, F, hs, hD, e2.trans hr, rest⟩
theorem ranges_keep {X : Nat → Prop} (h : w.ranges P k R b r n D left cnt) (hf : Frm X w w') (h1 : ¬ X b) (h2 : ¬ X r) : w'.ranges P k R b r n D left cnt :=
  ranges_keepB h (hf.block b h.owns.lt h1) (hf.block r h.lt h2)
end
theorem frm_grown {w w' : World} {row : Option Nat} (h : w.grownBy w' row) : Frm (fun k => row = some k) w w' :=
  ⟨h.os, h.tape, h.output, h.size, fun k hk hn => h.block k hk fun e => hn e.symm⟩
section
variable {ops : Array Oper} {rest : List Oper} {o : Oper} {a : Act} {w : World} {Q : Exit → Act → World → Prop}
theorem wpl_next_blk (hg : o.guard = none) (it : Operand) (hop : o.op = Op.next it false) (b r m n : Nat) (E : DataW Unit) (G : Nat → Option (List UInt8)) (hE : MapD E n G) (left : Lit → Bool) (cnt : Nat)
    (hit : a.eval it = .pointer (some ⟨r, 0, none⟩)) (h : w.ranges Tryz.prog 3 blkElem b r m E left cnt)
    (hDone : (∀ k : Nat, left (.int .i64 (k : Int)) = false) → wpList Tryz.prog ops Q rest (a.put o.dst (.tuple #[.bool false])) w)
    (hMore : ∀ (k : Nat) (l : List UInt8) (w' : World) (cnt' : Nat), k < n → G k = some l → l.length = 64 → w'.ranges Tryz.prog 3 blkElem b r m E (fun z => left z && !z.sameKey (.int .i64 (k : Int))) cnt' → cnt' < cnt →
      Frm (· = r) w w' → w'.heap.size = w.heap.size → (Instr.entry (.pointer (some ⟨r, 0, none⟩))).run Tryz.prog w' = .ok (.tuple #[.int .i64 (k : Int), bkv l]) w' → wpList Tryz.prog ops Q rest (a.put o.dst (.tuple #[.bool true, .int .i64 (k : Int), bkv l])) w') :
    wpList Tryz.prog ops Q (o :: rest) a w := by
  refine wpList_next_ranges w hg it hop 3 int_keyed1 blkElem (Value.int .i64) (fun l : List UInt8 => bkv l) (fun key kl hkey => by obtain ⟨x, rfl, _⟩ := Go.Maps.keyOf_int_inv Tryz.underlying3 hkey; exact ⟨x, rfl⟩) (fun v y hv => by obtain ⟨l, rfl, _⟩ := blkElem_any hv; exact ⟨l, rfl⟩)
    b r m E left cnt hit h (fun _ hl => hDone fun k => hl _) ?_
  intro x c kl y w' cnt' hkey hlk hv hat hrg hlt hgr hsz hen
  obtain ⟨x', ex, rfl, hwx⟩ := Go.Maps.keyOf_int_inv Tryz.underlying3 hkey
  cases ex
  have hhas := Go.Maps.has_true_of_atKey hat
  obtain ⟨k, hkn, e⟩ := hE.keys _ hhas
  simp only [Lit.int.injEq, true_and] at e
  subst e
  obtain ⟨l, e1, h64, rfl⟩ := blkElem_any hv
  have ec : c = l := u8s_inj (by
    have := congrArg (fun v : Value => match v with | .agg cs => cs.toList | _ => []) e1
    exact this)
  subst ec
  have hG : (G k).isSome = true := (hE.has k).symm.trans hhas
  obtain ⟨l', hl'⟩ := Option.isSome_iff_exists.1 hG
  have hval := (hE.val k l' hl').2 (.lit (.string []))
  rw [hat] at hval
  have e2 : c = l' := by
    simp only [DataW.lit.injEq, Lit.string.injEq] at hval
    exact hval
  rw [← e2] at hl'
  exact hMore k c w' cnt' hkn hl' h64 hrg hlt ((frm_grown hgr).mono fun j _ hj => by cases hj; rfl) hsz hen
end

/-- The firm bytes on the way: those blocks that are no more to come have their fresh ones. -/
def DV.onWay (D : DV) (left : Lit → Bool) : DV := ⟨D.n, fun k => if (D.X k).isSome && !left (.int .i64 (k : Int)) then D.read k else D.F k, D.X⟩
theorem DV.onWay_done {D : DV} {left : Lit → Bool} (h : ∀ k : Nat, left (.int .i64 (k : Int)) = false) : D.onWay left = ⟨D.n, D.read, D.X⟩ := by
  unfold DV.onWay
  congr 1
  funext k
  rw [h k]
  cases e : D.X k with
  | none => simp [DV.read, e]
  | some l => simp
theorem DV.onWay_step {D : DV} {left : Lit → Bool} {k : Nat} {l : List UInt8} (h : D.X k = some l) : (⟨D.n, fun j => if j = k then l else (D.onWay left).F j, D.X⟩ : DV) = D.onWay fun z => left z && !z.sameKey (.int .i64 (k : Int)) := by
  unfold DV.onWay
  congr 1
  funext j
  by_cases e : j = k
  · subst e
    have : (Lit.int .i64 (j : Int)).sameKey (.int .i64 (j : Int)) = true := by simp [Lit.sameKey]
    simp [h, this, DV.read]
  · have : (Lit.int .i64 (j : Int)).sameKey (.int .i64 (k : Int)) = false := Go.Maps.sameKey_ne (fun h => e (by simp only [Lit.int.injEq, true_and] at h; omega))
    simp [e, this]
set_option maxRecDepth 100000 in
set_option maxHeartbeats 4000000 in
theorem flush_any (b f x : Nat) (D : DV) (w : World) (h : DevM w b f x D) :
    Calls Tryz.prog 75 #[.pointer (some ⟨b, 0, none⟩)] w fun e w' => e = .returned (.int .i64 (D.fresh.length : Nat)) ∧ DevM w' b f x D.flush ∧ Frm (fun k => k = f ∨ k = x) w w' := by
  have c3 := h.xc
  have HM := Lib.hid (dmade_any b f x D w h)
  have hlt := h.lt
  have hn := Lib.hid h.ok.hi
  obtain ⟨m, E, hown, hE⟩ := h.fresh
  have HE := Lib.hid hE
  have HO := Lib.hid hown
  have H := Lib.hid h
  clear h hown hE
  go_enter Tryz.func75, Tryz.ntmps75
  go_wp2_with fail
  refine HM.out.mono ?_
  rintro e w1 ⟨rfl, rfl⟩
  go_wp2_with (first
    | (at_len; refine wpl_len_blk rfl _ rfl x D.n D.X rfl H.out.fresh ?_)
    | (at_range; refine wpList_range_own _ rfl _ 73 rfl 3 112 int_keyed1 Tryz.underlying73 _ x m E rfl HO.out ?_; intro w0 hrg0 hg0 hs0)
    | fail)
  go_frame
  obtain ⟨R, hR⟩ : ∃ R, w.heap.size = R := ⟨_, rfl⟩
  have g00 : Frm (fun _ => False) w w0 := (frm_grown hg0).mono fun j _ hj => by cases hj
  rw [hR] at hrg0 hs0 ⊢
  have HR := Lib.hid hR
  clear hg0
  go_loopw [19] (fun _ wr => ∃ (left : Lit → Bool) (cnt : Nat), wr.ranges Tryz.prog 3 blkElem x R m E left cnt ∧ DevM wr b f x (D.onWay left) ∧ Frm (· = f) w wr) (fun _ wr => wr.rangeLeft x R)
  case atStart =>
    refine ⟨_, _, hrg0, ?_, g00.mono fun _ _ h => h.elim⟩
    have h0 := H.out.keepF g00
    have e : D.onWay (Go.Maps.has E) = D := by
      unfold DV.onWay
      have : (fun k => if (D.X k).isSome && !Go.Maps.has E (.int .i64 (k : Int)) then D.read k else D.F k) = D.F := by
        funext k
        rw [HE.out.has k]
        cases D.X k <;> simp
      rw [this]
    rw [e]
    exact h0
  case round =>
    obtain ⟨left, cnt, hrg, hd, gw⟩ := hrel
    have hlx : R < wr.heap.size := hrg.lt
    have HD := Lib.hid hd
    have GW := Lib.hid gw
    have HRG := Lib.hid hrg
    clear hd gw
    go_wp2_with (first
      | (at_next; refine wpl_next_blk rfl _ rfl x R m D.n E D.X HE.out left cnt rfl hrg ?_ ?_)
      | fail)
    · intro hl0
      have hdd := HD.out
      rw [DV.onWay_done hl0] at hdd
      have c5 := hdd.xc
      go_wp2_with (first
        | (refine wpl_clear_blk rfl _ rfl x D.n D.X rfl hdd.fresh ?_; intro w5 hm5 hg5 hs5)
        | fail)
      go_ret
      have g5 : Frm (fun k => k = f ∨ k = x) w w5 := (GW.out.mono fun _ _ h => .inl h).trans (hg5.mono fun _ _ h => .inr h)
      exact ⟨rfl, ⟨hdd.blk.keep hg5 hdd.bx, hdd.firm.keep hg5 hdd.fx, hm5, hdd.bf, hdd.bx, hdd.fx, H.out.ok.flush⟩, g5⟩
    · intro k l w1 cnt1 hkn hX h64 hrg1 hlt1 hg1 hs1 hen
      clear hrg
      have hb0 : b ≠ R ∧ f ≠ R ∧ x ≠ R := by have := HR.out; omega
      have h1 := HD.out.keep hg1 hb0.1 hb0.2.1 hb0.2.2
      have bl := Blk.alloc w1 112 (u8s zb).toArray
      have ga : Frm (fun _ => False) w1 (w1.alloc (.cells (u8s zb).toArray 112)) := (Frm.refl _ w1).alloc _
      have hlt1 := h1.lt
      have hrlt := hrg1.lt
      have H1 := Lib.hid (And.intro (h1.keepF ga) (ranges_keep hrg1 ga (fun h => h) (fun h => h)))
      have hfz : (D.onWay left).n = D.n := rfl
      clear h1 hrg1 hs1
      go_wp2_with (first
        | (refine wpl_store_bytes rfl (.tmp 5) (.tmp 23) rfl w1.heap.size l zb rfl rfl bl zb_len h64 ?_; intro w2 hm2 hg2 hs2)
        | (refine wpl_load_blk rfl (.tmp 5) rfl w1.heap.size l rfl hm2 h64 ?_)
        | fail)
      have h2 := H1.out.1.keep hg2 (by omega) (by omega) (by omega)
      have r2 := ranges_keep H1.out.2 hg2 (by omega) (by omega)
      refine (settle_any b f x k l (D.onWay left) w2 h2 hkn h64).mono ?_
      rintro e w3 ⟨rfl, h3, g3⟩
      have e3 : (⟨(D.onWay left).n, fun j => if j = k then l else (D.onWay left).F j, (D.onWay left).X⟩ : DV) = D.onWay fun z => left z && !z.sameKey (.int .i64 (k : Int)) := DV.onWay_step hX
      rw [e3] at h3
      have r3 := ranges_keep r2 g3 (Ne.symm h2.fx) (by omega)
      have hw3 : Frm (· = f) w w3 := by
        have hsz := GW.out.size
        have a1 := GW.out.next (hg1.mono fun _ _ h => h) fun j hj e => by have := HR.out; omega
        have a2 := a1.trans (ga.mono fun _ _ h => h.elim)
        have a3 := a2.next hg2 fun j hj e => by omega
        exact a3.trans g3
      go_wp2_with fail
      go_roundw
      case rel => exact ⟨_, cnt1, r3, h3, hw3⟩
      case measure => rw [r3.left_eq, HRG.out.left_eq]; omega
end Go.Proofs.YtdhnidmeeocajaaGreat
end
