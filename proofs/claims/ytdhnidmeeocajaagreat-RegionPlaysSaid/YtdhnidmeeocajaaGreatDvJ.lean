/- What Crash does. No condition. -/
import Derived.Test.YtdhnidmeeocajaaGreatDvI
import Derived.Test.YtdhnidmeeocajaaGreatLate
namespace Go.Proofs.YtdhnidmeeocajaaGreat
open Go.RowKit Go.Shelf

section
variable {ops : Array Oper} {Q : Exit → Act → World → Prop} {r m : Nat} {a : Act} {W : World}
theorem wpTail.store_bytes {o : Oper} (hi : ops[r]? = some o) (hgd : o.guard = none) (hd : o.dst = none) (x y : Operand) (ho : o.op = .store 112 x y)
    (b : Nat) (l old : List UInt8) (hx : a.eval x = .pointer (some ⟨b, 0, none⟩)) (hy : a.eval y = bkv l) (h : Blk W b 112 (u8s old).toArray) (hm : old.length = 64) (hl : l.length = 64)
    (hK : ∀ w', Blk w' b 112 (u8s l).toArray → Frm (· = b) W w' → wpTail Tryz.prog ops Q (r + 1) m a w') : wpTail Tryz.prog ops Q r (m + 1) a W := by
  have hs : (u8s old).toArray.size = (u8s l).toArray.size := by simp [u8s_length, hm, hl]
  refine wpTail.cons hi hgd fun K hK' => wp_store_row 112 x y ho b _ hx hy 112 _ h (by rw [List.size_toArray, u8s_length, hl]; kernel_rfl) hs (by rw [Array.all_eq_true_iff_forall_mem]; intro v hv; exact u8_one v (by simpa using hv)) ?_
  have e : (a.put o.dst undef) = a := by rw [hd]; rfl
  rw [e]
  refine hK' _ _ (hK _ ?_ ?_)
  · simp only [Blk] at h
    simp only [Blk, World.setRow, Array.getElem?_modify]
    simp [h]
  · refine ⟨rfl, rfl, rfl, by simp [World.setRow], fun k _ hk => ?_⟩
    simp only [World.setRow, Array.getElem?_modify]
    rw [if_neg (fun e => hk e.symm)]
/-- The first bytes of a block are copied over another one's. -/
theorem wpOp_copy_blk {o : Oper} {K : Act → World → Prop} {i : Nat} {e : Tmp} (hi : ops[i]? = some o) (hg : o.guard = none) (hd : o.dst = some e) (d s : Operand) (hop : o.op = Op.call { callee := Callee.builtin Builtin.copy, args := #[d, s], argTypes := #[77, 77] })
    (b c n cap cap2 : Nat) (l x : List UInt8) (hdd : a.eval d = .slice (some ⟨b, 0, none⟩) n cap) (hss : a.eval s = .slice (some ⟨c, 0, none⟩) 64 cap2) (hb : Blk W b 112 (u8s l).toArray) (hx : Blk W c 112 (u8s x).toArray) (hl : l.length = 64) (hxl : x.length = 64) (hn : n ≤ 64)
    (hK : ∀ w', Blk w' b 112 (u8s (x.take n ++ l.drop n)).toArray → Frm (· = b) W w' → K (a.put (some e) (.int .i64 (n : Int))) w') : wpOp Tryz.prog ops Q i K a W := by
  have hlen : (u8s (x.take n)).length = n := by rw [u8s_length, List.length_take]; omega
  have hrun := run_copy_cells (P := Tryz.prog) W 77 77 o.type 5 b 0 n cap ⟨c, 0, none⟩ 64 cap2 (u8s (x.take n)) Tryz.underlying77 (by kernel_rfl) (by rw [hlen]; exact (Nat.min_eq_right hn).symm) (fun j v hj => by
      have hjn : j < n := by
        rcases Nat.lt_or_ge j n with h | h
        · exact h
        · rw [List.getElem?_eq_none (by omega)] at hj; cases hj
      have e1 : (⟨c, 0, none⟩ : Addr).add j = ⟨c, j, none⟩ := by unfold Addr.add; split <;> simp_all
      rw [e1, cells_u8s hx j (by omega), ← hj, ← u8s_take, List.getElem?_take_of_lt hjn])
    (fun j hj => by rw [Nat.zero_add, cells_u8s hb j (by omega), u8s_get l j (by omega)]; rfl) (fun j _ => hb.free _) u8_one
  have h2 := Blk.setBytes (x.take n) l 0 W hb (by rw [List.length_take]; omega)
  have e3 : l.take 0 ++ x.take n ++ l.drop (0 + (x.take n).length) = x.take n ++ l.drop n := by
    rw [List.take_zero, List.nil_append, Nat.zero_add, List.length_take, Nat.min_eq_left (by omega)]
  rw [e3] at h2
  rw [hlen] at hrun
  unfold wpOp
  simp only [hi]
  rw [if_pos (by unfold Region.wanted; rw [hg])]
  refine .inl ?_
  unfold Oper.wp
  simp [execOp, hop, resolve, invoke, builtin, hdd, hss, hrun, Result.andThen]
  rw [Oper.upon_value, hd]
  exact hK _ h2 (setBytes_frm b 0 _ W)
end

theorem Zs.keepN {X : Nat → Prop} {w w' : World} {v : Value} {l : List Int} (h : Zs w v l) (hf : Frm X w w') (hn : l.length = 0 ∨ ∀ g, blkOf v = some g → ¬ X g) : Zs w' v l := by
  rcases hn with h0 | hn
  · obtain ⟨a, cap, rfl, _, h2⟩ := h.slice
    obtain rfl : l = [] := List.eq_nil_of_length_eq_zero h0
    exact Sl.nil_ w' 1 a cap h2
  · exact Sl.keep h hf hn
/-- Where what is read lies. -/
theorem Zs.low {w : World} {v : Value} {l : List Int} (h : Zs w v l) : l.length = 0 ∨ ∀ g, blkOf v = some g → g < w.heap.size := by
  obtain ⟨_, a, cap, rfl, _, _, h4⟩ := h
  rcases h4 with h4 | ⟨g, off, rfl, h5, _⟩
  · exact .inl h4
  · exact .inr fun q e => by cases e; exact h5
/-- The firm bytes on the way: the first i of the fresh blocks have crashed. -/
def DV.torn (D : DV) (cs : List Int) (i : Nat) : DV := ⟨D.n, fun k => if (D.X k).isSome && decide (D.rank k < i) then D.left cs k else D.F k, D.X⟩
theorem DV.torn_zero (D : DV) (cs : List Int) : D.torn cs 0 = D := by
  unfold DV.torn
  have : (fun k => if (D.X k).isSome && decide (D.rank k < 0) then D.left cs k else D.F k) = D.F := by
    funext k
    simp
  rw [this]
theorem DV.rank_lt {D : DV} (h : D.ok) {k : Nat} (hk : (D.X k).isSome = true) : ∃ i, ∃ hi : i < D.fresh.length, D.fresh[i] = k ∧ D.rank k = i := by
  obtain ⟨i, hi, e⟩ := List.getElem_of_mem (h.mem.2 hk)
  exact ⟨i, hi, e, by rw [← e]; exact D.rank_at i hi⟩
theorem DV.torn_all {D : DV} (h : D.ok) (cs : List Int) : D.torn cs D.fresh.length = ⟨D.n, D.left cs, D.X⟩ := by
  unfold DV.torn
  congr 1
  funext k
  cases e : D.X k with
  | none => simp [DV.left, e]
  | some l =>
    obtain ⟨i, hi, _, hr⟩ := DV.rank_lt h (k := k) (by rw [e]; rfl)
    rw [hr]
    simp [hi]
theorem DV.torn_step {D : DV} (h : D.ok) (cs : List Int) (i : Nat) (hi : i < D.fresh.length) : (⟨D.n, fun j => if j = D.fresh[i] then D.left cs D.fresh[i] else (D.torn cs i).F j, D.X⟩ : DV) = D.torn cs (i + 1) := by
  unfold DV.torn
  congr 1
  funext j
  have hm := (mem_fresh.1 (List.getElem_mem hi)).2
  have hr := D.rank_at i hi
  by_cases e : j = D.fresh[i]
  · rw [if_pos e, e, hr, hm]
    simp
  · rw [if_neg e]
    dsimp only
    cases hx : (D.X j).isSome with
    | false => simp
    | true =>
      obtain ⟨i2, hi2, e2, hr2⟩ := DV.rank_lt h hx
      have hne : i2 ≠ i := fun e3 => e (by subst e3; exact e2.symm)
      rw [hr2]
      by_cases h3 : i2 < i
      · simp [h3, show i2 < i + 1 by omega]
      · simp [h3, show ¬ i2 < i + 1 by omega]
def cr4M : List Nat := [1, 3, 7, 15, 16, 63, 64, 192, 448, 960, 1024, 4032, 4096, 8192, 32767, 49151]
def cr4R (b f x k K : Nat) (lf lx : List UInt8) : List ((Nat → Value) → World → Prop) := [
  fun val _ => val 0 = .pointer (some ⟨b, 0, none⟩),
  fun val _ => val 1 = .pointer (some ⟨b, 0, none⟩),
  fun val _ => val 2 = .pointer (some ⟨b, 2, none⟩),
  fun val _ => val 3 = .map (some f),
  fun val _ => val 4 = .int .i64 (k : Int),
  fun val _ => val 5 = bkv lf,
  fun val _ => val 6 = .pointer (some ⟨b, 0, none⟩),
  fun val _ => val 7 = .pointer (some ⟨b, 0, none⟩),
  fun val _ => val 8 = .pointer (some ⟨b, 3, none⟩),
  fun val _ => val 9 = .map (some x),
  fun val _ => val 10 = .int .i64 (k : Int),
  fun val _ => val 11 = bkv lx,
  fun val W => ∃ b, (val 12) = .pointer (some ⟨b, 0, none⟩) ∧ K ≤ b ∧ Blk W b 112 (u8s zb).toArray,
  fun val W => ∃ b, (val 13) = .pointer (some ⟨b, 0, none⟩) ∧ K ≤ b ∧ Blk W b 112 (u8s zb).toArray]

set_option maxRecDepth 100000 in
set_option maxHeartbeats 16000000 in
theorem crash_any (b f x : Nat) (D : DV) (v : Value) (cs : List Int) (w : World) (h : DevM w b f x D) (hv : Zs w v cs) (hz : ∀ z ∈ cs, Z64 z) (hcl : cs.length ≤ 1000000) (hvb : cs.length = 0 ∨ ∀ g, blkOf v = some g → g ≠ f) :
    Calls Tryz.prog 55 #[.pointer (some ⟨b, 0, none⟩), v] w fun e w' => e = .returned (.tuple #[]) ∧ DevM w' b f x (D.crash cs) ∧ Frm (fun k => k = f ∨ k = x) w w' := by
  have HM := Lib.hid (dmade_any b f x D w h)
  have HFR := Lib.hid (fresh_any b f x D w h)
  have hlt := h.lt
  have hok := Lib.hid h.ok
  have hnn := h.ok.hi
  have hfl := D.fresh_len
  have H := Lib.hid h
  have HV := Lib.hid (And.intro hv (And.intro hz (And.intro hcl hvb)))
  clear h hv hz hcl hvb
  go_enter Tryz.func55, Tryz.ntmps55
  go_wp2_with fail
  refine HM.out.mono ?_
  rintro e w1 ⟨rfl, rfl⟩
  go_wp2_with fail
  refine HFR.out.mono ?_
  rintro e w1 ⟨u, rfl, hu, hub, g1⟩
  have hlen : (D.fresh.map Int.ofNat).length = D.fresh.length := by rw [List.length_map]
  obtain ⟨au, cu, rfl, hc1, hc2⟩ := hu.zs.slice
  rw [hlen] at hc1 hub hu ⊢
  unfold maxLen at hc2
  obtain ⟨L, hL⟩ : ∃ L, D.fresh.length = L := ⟨_, rfl⟩
  rw [hL] at hc1 hub hu hfl ⊢
  have HU := Lib.hid (And.intro hu (And.intro hub (And.intro g1 hL)))
  clear hu hub hL hlen
  have hs1 := g1.size
  obtain ⟨n1, hn1⟩ : ∃ n1, w1.heap.size = n1 := ⟨_, rfl⟩
  rw [hn1] at hs1
  go_wp2_with fail
  go_loopw [14] (fun i wr => ∃ k : Nat, k ≤ L ∧ i = .int .i64 k ∧ DevM wr b f x (D.torn cs k) ∧ Frm (· = f) w1 wr) (fun i _ => L - (intOf i).toNat)
  case atStart => exact ⟨0, Nat.zero_le _, rfl, by rw [DV.torn_zero]; exact H.out.keepF g1, Frm.refl _ _⟩
  case round =>
    obtain ⟨i, hi, rfl, hd, gr⟩ := hrel
    by_cases hlt2 : i < L
    · have hiF : i < D.fresh.length := by have := HU.out.2.2.2; omega
      obtain ⟨k, hk⟩ : ∃ k, D.fresh[i] = k := ⟨_, rfl⟩
      have hmk := DV.mem_fresh.1 (hk ▸ List.getElem_mem hiF : k ∈ D.fresh)
      obtain ⟨lx, hlx⟩ := Option.isSome_iff_exists.1 hmk.2
      have hrk : D.rank k = i := by rw [← hk]; exact D.rank_at i hiF
      have hxl := (hok.out.xl k lx hlx).1
      have hfk := hok.out.fl k
      obtain ⟨lf, hlf⟩ : ∃ lf, D.F k = lf := ⟨_, rfl⟩
      rw [hlf] at hfk
      have htk : (D.torn cs i).F k = lf := by
        unfold DV.torn
        dsimp only
        rw [hrk, show decide (i < i) = false from decide_eq_false (Nat.lt_irrefl i), Bool.and_false, if_neg (by decide)]
        exact hlf
      have hleft : D.left cs k = lx.take (surv cs i) ++ lf.drop (surv cs i) := by
        unfold DV.left
        rw [hlx, hrk, hlf]
      obtain ⟨g, off, hau, hg, c00⟩ := HU.out.1.zs.at i (by rw [List.length_map]; exact hiF)
      subst hau
      have hgw : w.heap.size ≤ g := HU.out.2.1 g rfl
      have c0 : wr.cell? ⟨g, off + i, none⟩ = some (.int .i64 (k : Int)) := by
        rw [World.cell?_of_block (a := ⟨g, off + i, none⟩) (gr.block g hg (by omega)), c00, List.getElem_map, hk]
        rfl
      clear c00
      have hii : (i : Int) < (L : Int) := by omega
      have hi0 : (0 : Int) ≤ (i : Int) := by omega
      have HTK := Lib.hid (And.intro htk (And.intro hlx (And.intro hleft (And.intro hk hiF))))
      have HS : Hid (∀ W, Frm (fun _ => False) wr W → DevM W b f x (D.torn cs i)) := Lib.hid fun W g => hd.keepF g
      have HLf : Hid (∀ W, DevM W b f x (D.torn cs i) → (Instr.lookup 73 (.map (some f)) (.int .i64 (k : Int)) false).run Tryz.prog W = .ok (bkv lf) W) := Lib.hid fun W h => by
        have := h.firm.look k (by have := hmk.1; omega)
        rw [DV.firmG_get, htk] at this
        exact this
      have HLx : Hid (∀ W, DevM W b f x (D.torn cs i) → (Instr.lookup 73 (.map (some x)) (.int .i64 (k : Int)) false).run Tryz.prog W = .ok (bkv lx) W) := Lib.hid fun W h => by
        have := h.fresh.look k (by have := hmk.1; omega)
        rw [show (D.torn cs i).X = D.X from rfl, hlx] at this
        exact this
      obtain ⟨K, hK⟩ : ∃ K, wr.heap.size = K := ⟨_, rfl⟩
      have HK : Hid (∀ W, Frm (fun _ => False) wr W → K ≤ W.heap.size) := Lib.hid fun W g => hK ▸ g.size
      have HG := Lib.hid (And.intro gr (And.intro hK (And.intro hmk.1 hgw)))
      have HHL := Lib.hid (And.intro hfk hxl)
      clear htk hlx hleft hk hd hlf hmk hrk hfk hxl gr
      go_upto_region 4 with fail
      have D4 : Frm (fun _ => False) wr wr.drew := (Frm.refl _ wr).drewN 1
      refine wp_region_lateS 14 2 [] [[], [0], [1], [2], [], [3, 4], [], [6], [7], [8], [], [9, 10], [], []] cr4M (cr4R b f x k K lf lx) (by kernel_rfl) rfl rfl rfl (by kernel_rfl) (by kernel_rfl) (by kernel_rfl) (by kernel_rfl) rfl (by kernel_rfl) (by kernel_rfl) (by kernel_rfl) (by kernel_rfl) (fun val => ?_) ?_
      · try simp only [Act.put, List.setIfInBounds_toArray, List.set_cons_zero, List.set_cons_succ]
        refine RelO.next (k' := 1) rfl (fun W gW hF => ?_) ?_
        focus
          refine OpOK.val (u := .pointer (some ⟨b, 0, none⟩)) (by rfl) ?_ (fun W' _ => rfl)
          try simp only [tupAt]
          first | (go_simp; done) | (go_simp; with_reducible rfl) | (go_simp; rfl)
        try simp only [Act.put, List.setIfInBounds_toArray, List.set_cons_zero, List.set_cons_succ]
        refine RelO.next (k' := 2) rfl (fun W gW hF => ?_) ?_
        focus
          obtain ⟨h0, _⟩ := hF
          have e0 : val 0 = .pointer (some ⟨b, 0, none⟩) := h0 _ (Frm.refl _ W)
          try simp only [e0]
          try simp only [tupAt]
          refine OpOK.val (u := .pointer (some ⟨b, 0, none⟩)) (by rfl) ?_ (fun W' _ => rfl)
          try simp only [e0]
          try simp only [tupAt]
          first | (go_simp; done) | (go_simp; with_reducible rfl) | (go_simp; rfl)
        try simp only [Act.put, List.setIfInBounds_toArray, List.set_cons_zero, List.set_cons_succ]
        refine RelO.next (k' := 3) rfl (fun W gW hF => ?_) ?_
        focus
          obtain ⟨h1, _⟩ := hF
          have e1 : val 1 = .pointer (some ⟨b, 0, none⟩) := h1 _ (Frm.refl _ W)
          try simp only [e1]
          try simp only [tupAt]
          refine OpOK.val (u := .pointer (some ⟨b, 2, none⟩)) (by rfl) ?_ (fun W' _ => rfl)
          try simp only [e1]
          try simp only [tupAt]
          first | (go_simp; done) | (go_simp; with_reducible rfl) | (go_simp; rfl)
        try simp only [Act.put, List.setIfInBounds_toArray, List.set_cons_zero, List.set_cons_succ]
        refine RelO.next (k' := 4) rfl (fun W gW hF => ?_) ?_
        focus
          obtain ⟨h2, _⟩ := hF
          have e2 : val 2 = .pointer (some ⟨b, 2, none⟩) := h2 _ (Frm.refl _ W)
          try simp only [e2]
          try simp only [tupAt]
          have c := (HS.out W (D4.trans gW)).fc
          exact OpOK.val (u := .map (some f)) (by rfl) (by first | (go_simp; done) | (go_simp; with_reducible rfl) | (go_simp; rfl)) (fun W' _ => rfl)
        try simp only [Act.put, List.setIfInBounds_toArray, List.set_cons_zero, List.set_cons_succ]
        refine RelO.next (k' := 5) rfl (fun W gW hF => ?_) ?_
        focus
          refine OpOK.val (u := .int .i64 (k : Int)) (by rfl) ?_ (fun W' _ => rfl)
          try simp only [tupAt]
          first | (go_simp; done) | (go_simp; with_reducible rfl) | (go_simp; rfl)
        try simp only [Act.put, List.setIfInBounds_toArray, List.set_cons_zero, List.set_cons_succ]
        refine RelO.next (k' := 6) rfl (fun W gW hF => ?_) ?_
        focus
          obtain ⟨h3, h4, _⟩ := hF
          have e3 : val 3 = .map (some f) := h3 _ (Frm.refl _ W)
          have e4 : val 4 = .int .i64 (k : Int) := h4 _ (Frm.refl _ W)
          try simp only [e4]
          try simp only [e3]
          try simp only [tupAt]
          have c := HLf.out W (HS.out W (D4.trans gW))
          exact OpOK.val (u := bkv lf) (by rfl) (by first | (go_simp; done) | (go_simp; with_reducible rfl) | (go_simp; rfl)) (fun W' _ => rfl)
        try simp only [Act.put, List.setIfInBounds_toArray, List.set_cons_zero, List.set_cons_succ]
        refine RelO.next (k' := 7) rfl (fun W gW hF => ?_) ?_
        focus
          refine OpOK.val (u := .pointer (some ⟨b, 0, none⟩)) (by rfl) ?_ (fun W' _ => rfl)
          try simp only [tupAt]
          first | (go_simp; done) | (go_simp; with_reducible rfl) | (go_simp; rfl)
        try simp only [Act.put, List.setIfInBounds_toArray, List.set_cons_zero, List.set_cons_succ]
        refine RelO.next (k' := 8) rfl (fun W gW hF => ?_) ?_
        focus
          obtain ⟨h6, _⟩ := hF
          have e6 : val 6 = .pointer (some ⟨b, 0, none⟩) := h6 _ (Frm.refl _ W)
          try simp only [e6]
          try simp only [tupAt]
          refine OpOK.val (u := .pointer (some ⟨b, 0, none⟩)) (by rfl) ?_ (fun W' _ => rfl)
          try simp only [e6]
          try simp only [tupAt]
          first | (go_simp; done) | (go_simp; with_reducible rfl) | (go_simp; rfl)
        try simp only [Act.put, List.setIfInBounds_toArray, List.set_cons_zero, List.set_cons_succ]
        refine RelO.next (k' := 9) rfl (fun W gW hF => ?_) ?_
        focus
          obtain ⟨h7, _⟩ := hF
          have e7 : val 7 = .pointer (some ⟨b, 0, none⟩) := h7 _ (Frm.refl _ W)
          try simp only [e7]
          try simp only [tupAt]
          refine OpOK.val (u := .pointer (some ⟨b, 3, none⟩)) (by rfl) ?_ (fun W' _ => rfl)
          try simp only [e7]
          try simp only [tupAt]
          first | (go_simp; done) | (go_simp; with_reducible rfl) | (go_simp; rfl)
        try simp only [Act.put, List.setIfInBounds_toArray, List.set_cons_zero, List.set_cons_succ]
        refine RelO.next (k' := 10) rfl (fun W gW hF => ?_) ?_
        focus
          obtain ⟨h8, _⟩ := hF
          have e8 : val 8 = .pointer (some ⟨b, 3, none⟩) := h8 _ (Frm.refl _ W)
          try simp only [e8]
          try simp only [tupAt]
          have c := (HS.out W (D4.trans gW)).xc
          exact OpOK.val (u := .map (some x)) (by rfl) (by first | (go_simp; done) | (go_simp; with_reducible rfl) | (go_simp; rfl)) (fun W' _ => rfl)
        try simp only [Act.put, List.setIfInBounds_toArray, List.set_cons_zero, List.set_cons_succ]
        refine RelO.next (k' := 11) rfl (fun W gW hF => ?_) ?_
        focus
          refine OpOK.val (u := .int .i64 (k : Int)) (by rfl) ?_ (fun W' _ => rfl)
          try simp only [tupAt]
          first | (go_simp; done) | (go_simp; with_reducible rfl) | (go_simp; rfl)
        try simp only [Act.put, List.setIfInBounds_toArray, List.set_cons_zero, List.set_cons_succ]
        refine RelO.next (k' := 12) rfl (fun W gW hF => ?_) ?_
        focus
          obtain ⟨h9, h10, _⟩ := hF
          have e9 : val 9 = .map (some x) := h9 _ (Frm.refl _ W)
          have e10 : val 10 = .int .i64 (k : Int) := h10 _ (Frm.refl _ W)
          try simp only [e10]
          try simp only [e9]
          try simp only [tupAt]
          have c := HLx.out W (HS.out W (D4.trans gW))
          exact OpOK.val (u := bkv lx) (by rfl) (by first | (go_simp; done) | (go_simp; with_reducible rfl) | (go_simp; rfl)) (fun W' _ => rfl)
        try simp only [Act.put, List.setIfInBounds_toArray, List.set_cons_zero, List.set_cons_succ]
        refine RelO.next (k' := 13) rfl (fun W gW hF => ?_) ?_
        focus
          have hlt := HK.out W (D4.trans gW)
          refine OpOK.made (W' := W.alloc (.cells (u8s zb).toArray 112)) (u := .pointer (some ⟨W.heap.size, 0, none⟩)) (by rfl) ?_ ((Frm.refl _ W).alloc _) (fun W2 g2 => ⟨W.heap.size, rfl, hlt, (Blk.alloc W _ _).keep g2 (fun h => h)⟩)
          first | (go_simp; done) | (go_simp; with_reducible rfl) | (go_simp; rfl)
        try simp only [Act.put, List.setIfInBounds_toArray, List.set_cons_zero, List.set_cons_succ]
        refine RelO.next (k' := 14) rfl (fun W gW hF => ?_) ?_
        focus
          have hlt := HK.out W (D4.trans gW)
          refine OpOK.made (W' := W.alloc (.cells (u8s zb).toArray 112)) (u := .pointer (some ⟨W.heap.size, 0, none⟩)) (by rfl) ?_ ((Frm.refl _ W).alloc _) (fun W2 g2 => ⟨W.heap.size, rfl, hlt, (Blk.alloc W _ _).keep g2 (fun h => h)⟩)
          first | (go_simp; done) | (go_simp; with_reducible rfl) | (go_simp; rfl)
        try simp only [Act.put, List.setIfInBounds_toArray, List.set_cons_zero, List.set_cons_succ]
        exact RelO.nil
      intro val w4 gW hF hS
      obtain ⟨h0, h1, h2, h3, h4, h5, h6, h7, h8, h9, h10, h11, h12, h13, hT⟩ := hF
      have e0 : val 0 = .pointer (some ⟨b, 0, none⟩) := h0 _ (Frm.refl _ w4)
      have e1 : val 1 = .pointer (some ⟨b, 0, none⟩) := h1 _ (Frm.refl _ w4)
      have e2 : val 2 = .pointer (some ⟨b, 2, none⟩) := h2 _ (Frm.refl _ w4)
      have e3 : val 3 = .map (some f) := h3 _ (Frm.refl _ w4)
      have e4 : val 4 = .int .i64 (k : Int) := h4 _ (Frm.refl _ w4)
      have e5 : val 5 = bkv lf := h5 _ (Frm.refl _ w4)
      have e6 : val 6 = .pointer (some ⟨b, 0, none⟩) := h6 _ (Frm.refl _ w4)
      have e7 : val 7 = .pointer (some ⟨b, 0, none⟩) := h7 _ (Frm.refl _ w4)
      have e8 : val 8 = .pointer (some ⟨b, 3, none⟩) := h8 _ (Frm.refl _ w4)
      have e9 : val 9 = .map (some x) := h9 _ (Frm.refl _ w4)
      have e10 : val 10 = .int .i64 (k : Int) := h10 _ (Frm.refl _ w4)
      have e11 : val 11 = bkv lx := h11 _ (Frm.refl _ w4)
      have q12 : ∃ b, (val 12) = .pointer (some ⟨b, 0, none⟩) ∧ K ≤ b ∧ Blk w4 b 112 (u8s zb).toArray := h12 _ (Frm.refl _ w4)
      obtain ⟨B6, e12, hB6, bB6⟩ := q12
      have q13 : ∃ b, (val 13) = .pointer (some ⟨b, 0, none⟩) ∧ K ≤ b ∧ Blk w4 b 112 (u8s zb).toArray := h13 _ (Frm.refl _ w4)
      obtain ⟨B7, e13, hB7, bB7⟩ := q13
      have hS1 := hS 12 13 (by decide) (by decide) (by kernel_rfl) (by kernel_rfl) (by decide)
      rw [e12, e13] at hS1
      clear hS
      clear hT h0 h1 h2 h3 h4 h5 h6 h7 h8 h9 h10 h11 h12 h13
      simp only [aO, Act.put, List.setIfInBounds_toArray, List.set_cons_zero, List.set_cons_succ, Nat.reduceAdd]
      try simp only [e13]
      try simp only [e12]
      try simp only [e11]
      try simp only [e10]
      try simp only [e9]
      try simp only [e8]
      try simp only [e7]
      try simp only [e6]
      try simp only [e5]
      try simp only [e4]
      try simp only [e3]
      try simp only [e2]
      try simp only [e1]
      try simp only [e0]
      try simp only [tupAt]
      have hne : B6 ≠ B7 := fun e => hS1 (by rw [e])
      refine wpTail.store_bytes rfl rfl rfl _ _ rfl B6 lf zb (by rfl) (by rfl) bB6 zb_len HHL.out.1 (fun w5 b5 g5 => ?_)
      refine wpTail.store_bytes rfl rfl rfl _ _ rfl B7 lx zb (by rfl) (by rfl) (bB7.keep g5 (Ne.symm hne)) zb_len HHL.out.2 (fun w6 b6 g6 => ?_)
      refine wpTail.doneN ?_
      have a6 : Frm (fun _ => False) wr w6 := by
        have := HG.out.2.1
        exact ((D4.trans gW).next g5 fun j hj e => by omega).next g6 fun j hj e => by omega
      have bf6 := b5.keep g6 hne
      have hv6 : Zs w6 v cs := Sl.keepF (Zs.keepN (Sl.keepF HV.out.1 HU.out.2.2.1) HG.out.1 (HV.out.2.2.2.imp id fun h q e hq => h q e hq)) a6
      have h6 := Lib.hid (And.intro (HS.out w6 a6) a6)
      have hBB := Lib.hid (And.intro hB6 hB7)
      obtain ⟨c, hc⟩ : ∃ c, surv cs i = c := ⟨_, rfl⟩
      have hc64 : c ≤ 64 := by rw [← hc]; exact surv_le cs i
      have hci : (c : Int) ≤ 64 := by omega
      have hc0 : (0 : Int) ≤ (c : Int) := by omega
      have sv : ∀ W, (Zs W v cs ∧ Blk W B6 112 (u8s lf).toArray ∧ Blk W B7 112 (u8s lx).toArray ∧ Frm (fun _ => False) w6 W) → Calls Tryz.prog 85 #[v, .int .i64 (i : Int)] W fun e w' => e = .returned (.int .i64 (c : Nat)) ∧ W = w' := fun W hW => by
        rw [← hc]
        exact surv_any v cs i W hW.1 HV.out.2.1 (by omega) HV.out.2.2.1
      have HSV := Lib.hid sv
      have HC := Lib.hid hc
      clear D4 gW hB6 bB6 hB7 bB7 hS1 b5 g5 g6 a6 hc sv HLf HLx HS HK
      go_upto_region 5 with fail
      refine wp_region_root (fun W => Zs W v cs ∧ Blk W B6 112 (u8s lf).toArray ∧ Blk W B7 112 (u8s lx).toArray ∧ Frm (fun _ => False) w6 W) (by kernel_rfl) rfl rfl (by kernel_rfl) (by kernel_rfl) (by kernel_rfl) (⟨hv6, bf6, b6, (Frm.refl _ w6).drew⟩) ?_
      repeat' first
        | (refine CanonL.skip (by rfl) ?_; (try simp only [Act.put, List.setIfInBounds_toArray, List.set_cons_zero, List.set_cons_succ]))
        | (refine CanonL.callS (by rfl) (by rfl) ?_ HSV.out ?_ ?_; (focus (intro w; go_simp; (try (with_reducible rfl)); done)); (focus (rintro w ww hs gg; exact (by have gg' : w = ww := gg; subst gg'; exact hs))); (try simp only [Act.put, List.setIfInBounds_toArray, List.set_cons_zero, List.set_cons_succ]))
        | (refine CanonL.val (v := ?_) (by rfl) ?_ ?_; rotate_left 1; (focus (intro w hSw; (try dsimp only at hSw); go_simp; (try (with_reducible rfl)); done)); (try simp only [Act.put, List.setIfInBounds_toArray, List.set_cons_zero, List.set_cons_succ]))
      refine CanonL.done ?_
      intro w9 hS9
      obtain ⟨_, bb6, bb7, g8⟩ := hS9
      refine wpOp_copy_blk rfl rfl rfl _ _ rfl B6 B7 c 64 64 lf lx rfl rfl bb6 bb7 HHL.out.1 HHL.out.2 hc64 ?_
      intro w10 b10 g10
      have hlen : (D.left cs k).length = 64 := hok.out.llen cs k
      have hl2 : lx.take c ++ lf.drop c = D.left cs k := by rw [HTK.out.2.2.1, HC.out]
      rw [hl2] at b10
      obtain ⟨hd6, a6⟩ := h6.out
      have hwK := HG.out.2.1
      have hk6 := hd6.lt
      have hdlt := (HG.out.1.size)
      have h10 := (hd6.keepF g8).keep g10 (by have := hBB.out; omega) (by have := hBB.out; omega) (by have := hBB.out; omega)
      have a10 : Frm (fun _ => False) wr w10 := (a6.trans g8).next g10 fun j hj e => by have := hBB.out; omega
      have H10 := Lib.hid (And.intro h10 a10)
      clear bb6 bb7 g8 g10 hl2 hd6 a6 h10 a10 hwK hdlt
      go_wp2_with (first
        | (refine wpl_load_blk rfl (.tmp 6) rfl B6 (D.left cs k) rfl b10 hlen ?_)
        | fail)
      refine (settle_any b f x k (D.left cs k) (D.torn cs i) w10 H10.out.1 HG.out.2.2.1 hlen).mono ?_
      rintro e w11 ⟨rfl, h11, g11⟩
      have e11 : (⟨(D.torn cs i).n, fun j => if j = k then D.left cs k else (D.torn cs i).F j, (D.torn cs i).X⟩ : DV) = D.torn cs (i + 1) := by
        have := DV.torn_step hok.out cs i hiF
        rw [HTK.out.2.2.2.1] at this
        exact this
      rw [e11] at h11
      have g12 : Frm (· = f) w1 w11 := (HG.out.1.trans (H10.out.2.mono fun _ _ h => h.elim)).trans g11
      go_wp2_with fail
      go_roundw
      case rel => exact ⟨i + 1, by omega, by go_num, h11, g12⟩
      case measure => simp [intOf]; omega
    · obtain rfl : i = L := by omega
      have hdd := hd
      have hUL := HU.out.2.2.2
      rw [← hUL, DV.torn_all hok.out] at hdd
      clear hUL hd
      have c5 := hdd.xc
      have HDD := Lib.hid hdd
      have GR := Lib.hid gr
      clear hdd gr
      go_wp2_with (first
        | (refine wpl_clear_blk rfl _ rfl x D.n D.X rfl HDD.out.fresh ?_; intro w5 hm5 hg5 hs5)
        | fail)
      go_end0
      have hdd := HDD.out
      have ga : Frm (· = f) w wr := (HU.out.2.2.1.mono fun _ _ h => h.elim).trans GR.out
      have g5 : Frm (fun k => k = f ∨ k = x) w w5 := (ga.mono fun _ _ h => .inl h).trans (hg5.mono fun _ _ h => .inr h)
      exact ⟨rfl, ⟨hdd.blk.keep hg5 hdd.bx, hdd.firm.keep hg5 hdd.fx, hm5, hdd.bf, hdd.bx, hdd.fx, hok.out.crash cs⟩, g5⟩
end Go.Proofs.YtdhnidmeeocajaaGreat

