/- The statements' own registers by their dots, and whether registers are the same. No condition. -/
import Derived.Test.YtmdmkcofafhlcaaRing
import Derived.Test.YtmdmkcofafhlcaaSwA
namespace Go.Proofs.Ytmdmkcofafhlcaa
open Go.RowKit

theorem u8_wrap (n : Int) : IntKind.u8.wrap n = n % 256 := by rfl
/-- The value that a dot tells. -/
def Vd (d : DotI) : List UInt8 := [UInt8.ofNat d.r, UInt8.ofNat d.n, UInt8.ofNat (d.n / 256)]
theorem Vd_len (d : DotI) : (Vd d).length ≤ 9223372036854775807 := by simp [Vd]
def by1 (x : SibI) : SibI := ⟨x.r, x.n, Vd x.d, x.hr, x.hn, Vd_len _⟩
theorem byS_map (l : List SibI) : byS Vd Vd_len l = l.map by1 := rfl
theorem text_of3 (W : World) (b : Nat) (x : SibI) (h : Blk W b 5 #[.int .u8 (x.r : Int), .int .u8 ((UInt8.ofNat x.n).toNat : Int), .int .u8 ((UInt8.ofNat (x.n / 256)).toNat : Int)]) : (convert 133 9 (.slice (some ⟨b, 0, none⟩) 3 3)).run Try.prog W = .ok (.string (bs (Vd x.d))) W := by
  refine run_text_at Try.underlying133 Try.underlying9 Try.underlying5 W b 3 3 (Vd x.d) rfl fun j hj => ?_
  have e : (u8s (Vd x.d)) = [.int .u8 (x.r : Int), .int .u8 ((UInt8.ofNat x.n).toNat : Int), .int .u8 ((UInt8.ofNat (x.n / 256)).toNat : Int)] := by
    have h1 : (UInt8.ofNat x.d.r).toNat = x.r := by
      show (UInt8.ofNat x.r).toNat = x.r
      simp
      exact x.hr
    simp only [u8s, Vd, List.map_cons, List.map_nil, h1]
    rfl
  rw [e]
  rcases (show j = 0 ∨ j = 1 ∨ j = 2 by omega) with rfl | rfl | rfl
  · exact h.cell 0 rfl
  · exact h.cell 1 rfl
  · exact h.cell 2 rfl
section
variable {ops : Array Oper} {Q : Exit → Act → World → Prop} {r m : Nat} {a : Act} {w W : World}
theorem tail_fillS {w0 : World} {o1 o2 o3 : Oper} {x1 y1 x2 y2 : Operand} {d1 d2 : Tmp} (B : Nat) (f : Nat → Nat) (l ms : List SibI) (hb : l.length + ms.length ≤ 1000000) (v u : Value)
    (i1 : ops[r]? = some o1) (i2 : ops[r + 1]? = some o2) (i3 : ops[r + 1 + 1]? = some o3) (g1 : o1.guard = none) (g2 : o2.guard = none) (g3 : o3.guard = none) (n1 : o1.dst = some d1) (n2 : o2.dst = some d2) (n3 : o3.dst = none)
    (p1 : o1.op = .call ⟨.builtin .append, #[x1, y1], #[37, 37]⟩) (t1 : o1.type = 37) (p3 : o3.op = .store 37 x2 y2)
    (hx1 : a.eval x1 = v) (hy1 : a.eval y1 = u) (h : FillT 39 w0 B f l v W) (hs : SL W u ms)
    (h2 : ∀ v' W', (execOp (a.put (some d1) v').eval o2).run Try.prog W' = .ok (.value (.pointer (some ⟨B, 8, none⟩))) W')
    (hx2 : ∀ v', ((a.put (some d1) v').put (some d2) (.pointer (some ⟨B, 8, none⟩))).eval x2 = .pointer (some ⟨B, 8, none⟩)) (hy2 : ∀ v', ((a.put (some d1) v').put (some d2) (.pointer (some ⟨B, 8, none⟩))).eval y2 = v')
    (hK : ∀ v' W', FillT 39 w0 B f (l ++ ms) v' W' → Q .normal ((a.put (some d1) v').put (some d2) (.pointer (some ⟨B, 8, none⟩))) W') : wpTail Try.prog ops Q r 3 a W := by
  refine wpTail.append i1 g1 n1 p1 t1 hx1 hy1 h.own hs hb fun v' W1 o1 gr nb => ?_
  have hX : Frm (fun k => v.ownBlock = some k) W W1 := (Frm.refl _ W).grown gr (fun k _ e => e)
  have b1 := h.blk.keep hX (fun e => (h.out _ e).2 rfl)
  obtain ⟨a6, c6, rfl, _, _⟩ := Row.slice o1
  have hlt : B < W.heap.size := (Array.getElem?_eq_some_iff.1 h.blk).1
  have nn : ∀ g, (Value.slice a6 (l ++ ms).length c6).ownBlock = some g → w0.heap.size ≤ g ∧ g ≠ B := fun g e => (nb g e).elim (fun e => h.out g e) (fun e => ⟨Nat.le_trans h.frm.size e, by omega⟩)
  refine wpTail.val i2 g2 n2 (h2 _ W1) ?_
  refine wpTail.store_L i3 g3 n3 _ _ p3 B f v a6 (l ++ ms).length c6 (hx2 _) (hy2 _) b1 fun w7 b7 g7 z7 => ?_
  refine hK _ w7 ⟨b7, o1.keep g7 (fun g e => (nn g e).2), nn, (h.frm.next hX fun k hk e => ?_).next g7 fun k hk e => ?_, h.lo⟩
  · have := (h.out k e).1; omega
  · have e : k = B := e
    have := h.lo
    omega
end
def by6M : List Nat := [1, 3, 4, 8, 24, 32, 96, 224, 256, 768, 1792, 3840, 8184, 16376, 32764, 65532, 131071, 196607, 327679]
def by6R (u : Value) (B Bx : Nat) (x : SibI) : List ((Nat → Value) → World → Prop) := [
  fun val _ => val 0 = .pointer (some ⟨B, 8, none⟩),
  fun val _ => val 1 = u,
  fun val _ => val 2 = .agg (dv x.r x.n),
  fun val _ => val 3 = .pointer (some ⟨Bx, 0, none⟩),
  fun val _ => val 4 = .int .u8 (x.r : Int),
  fun val _ => val 5 = .pointer (some ⟨Bx, 1, none⟩),
  fun val _ => val 6 = .int .u32 (x.n : Int),
  fun val _ => val 7 = .int .u8 ((UInt8.ofNat x.n).toNat : Int),
  fun val _ => val 8 = .pointer (some ⟨Bx, 1, none⟩),
  fun val _ => val 9 = .int .u32 (x.n : Int),
  fun val _ => val 10 = .int .u32 ((x.n / 256 : Nat) : Int),
  fun val _ => val 11 = .int .u8 ((UInt8.ofNat (x.n / 256)).toNat : Int),
  fun val W => ∃ b, (val 12) = .slice (some ⟨b, 0, none⟩) 3 3 ∧ Blk W b 5 #[.int .u8 (x.r : Int), .int .u8 ((UInt8.ofNat x.n).toNat : Int), .int .u8 ((UInt8.ofNat (x.n / 256)).toNat : Int)],
  fun val _ => val 13 = .string (bs (Vd x.d)),
  fun val _ => val 14 = .agg #[.int .u8 x.r, .int .u32 x.n, .string (bs (Vd x.d))],
  fun val W => ∃ z, (val 15) = z ∧ SL W z [by1 x]]

set_option maxRecDepth 100000 in
set_option maxHeartbeats 4000000 in
theorem by_any (f : Nat → Nat) (v : Value) (l : List SibI) (w : World) (h : SL w v l) (hb : l.length ≤ 1000) :
    Calls Try.prog 42 #[rg f v] w fun e w' => ∃ v', e = .returned (rg f v') ∧ OwnL w' v' (l.map by1) ∧ Frm (fun _ => False) w w' ∧ ∀ g, v'.ownBlock = some g → w.heap.size ≤ g := by
  obtain ⟨a, cap, rfl, h1, h2⟩ := h.slice
  unfold maxLen at h2
  have g0 : Frm (fun _ => False) w ((w.alloc (.cells (rgc f (.slice a l.length cap)) 39)).alloc (.cells rz 39)) := ((Frm.refl _ w).alloc _).alloc _
  have b0 : Blk ((w.alloc (.cells (rgc f (.slice a l.length cap)) 39)).alloc (.cells rz 39)) w.heap.size 39 (rgc f (.slice a l.length cap)) := (Blk.alloc w _ _).old _
  have b1 : Blk ((w.alloc (.cells (rgc f (.slice a l.length cap)) 39)).alloc (.cells rz 39)) (w.heap.size + 1) 39 rz := Blk.at1 w _ _ _
  go_enter Try.func42, Try.ntmps42
  go_upto_region 1 with fail
  generalize (w.alloc (.cells (rgc f (.slice a l.length cap)) 39)).alloc (.cells rz 39) = w1 at *
  obtain ⟨N, hN⟩ : ∃ N, w.heap.size = N := ⟨_, rfl⟩
  have HN := Lib.hid hN
  rw [hN] at b0 b1 ⊢
  clear hN
  have lf := load_ctx b0
  have b2 := Blk.alloc w1 39 rz
  have hN1 := b1.lt
  have HN1 := Lib.hid hN1
  go_upto_region 2 with (first
    | ((with_reducible refine wpl_load rfl _ rfl ?_ lf ?_); (focus rfl))
    | ((with_reducible refine wpl_store_blk rfl 39 _ _ rfl w1.heap.size (rgc f (.slice none 0 0)) rz ?_ ?_ b2 rfl ?_ ?_ ?_); (focus rfl); (focus rfl); (focus (show _ = some 9; kernel_rfl)); (focus (simp [Value.oneCell'])); intro w2 e2 g2 z2))
  obtain ⟨B, hB⟩ : ∃ B, w1.heap.size = B := ⟨_, rfl⟩
  have HLT := Lib.hid (show w1.heap.size ≤ B from Nat.le_of_eq hB)
  have g2' : Frm (fun _ => False) w1 w2 := ((Frm.refl _ w1).alloc _).next g2 (fun k hk h => by have h : k = w1.heap.size := h; omega)
  have HB := Lib.hid (fun W (g : Frm (fun _ => False) w1 W) => b0.keep g (fun h => h))
  have HB1 := Lib.hid (fun W (g : Frm (fun _ => False) w1 W) => b1.keep g (fun h => h))
  rw [hB] at e2 hN1 ⊢
  have F0 : FillT 39 w1 B f ((l.take 0).map by1) (.slice none 0 0) w2 := ⟨e2, by rw [List.take_zero]; exact OwnL.nil_ _, fun _ h => (by cases h), g2', HLT.out⟩
  clear lf b2 g2 z2 hB b0 b1 g2' e2
  have hs := h.keepF g0
  go_wp2_with fail
  go_loopw [4] (fun i wr => ∃ (k : Nat) (u : Value), k ≤ l.length ∧ i = .int .i64 k ∧ FillT 39 w1 B f ((l.take k).map by1) u wr) (fun i _ => l.length - (intOf i).toNat)
  case atStart => exact ⟨0, _, Nat.zero_le _, rfl, F0⟩
  case round =>
    obtain ⟨k, u, hk, rfl, F1⟩ := hrel
    clear F0
    have HF0 := Lib.hid F1
    have c8 := (HB.out wr F1.frm).cell 8 rfl
    have hsr := hs.keepF F1.frm
    have F1f := F1.frm
    clear F1
    by_cases hlt : k < l.length
    · obtain ⟨g, off, rfl, x0, x1, x2⟩ := hsr.cells k hlt
      obtain ⟨x, hx⟩ : ∃ x, l[k] = x := ⟨_, rfl⟩
      rw [hx] at x0 x1 x2
      have HX1 := Lib.hid hx
      have hki : (k : Int) < (l.length : Int) := by omega
      have hk0 : (0 : Int) ≤ (k : Int) := by omega
      clear hx hsr F1f
      have bD := Blk.alloc wr 27 (dv x.r x.n)
      have fD : Frm (fun _ => False) wr (wr.alloc (.cells (dv x.r x.n) 27)) := (Frm.refl _ wr).alloc _
      go_upto_region 6 with fail
      rename_i hK
      obtain ⟨w5, hw5⟩ : ∃ w5, wr.alloc (.cells (dv x.r x.n) 27) = w5 := ⟨_, rfl⟩
      rw [hw5] at bD fD ⊢
      obtain ⟨Bx, hBx⟩ : ∃ Bx, wr.heap.size = Bx := ⟨_, rfl⟩
      rw [hBx] at bD ⊢
      have HF := Lib.hid (HF0.out.keep fD)
      have HX : Hid (∀ W, Frm (fun _ => False) w5 W → Blk W Bx 27 (dv x.r x.n)) := Lib.hid fun W g => bD.keep g (fun h => h)
      have hle : ((l.take k).map by1).length ≤ 1000 := by rw [List.length_map, List.length_take]; omega
      have D : Frm (fun _ => False) w5 w5 := Frm.refl _ _
      clear hw5 hBx bD fD x0 x1 x2 c8
      refine wp_region_textR 16 3 [[], [0], [], [], [3], [], [5], [6], [], [8], [9], [10], [4, 7, 11], [12], [2, 13], [14]] by6M (by6R u B Bx x) rfl rfl rfl rfl (by kernel_rfl) (by kernel_rfl) (fun val => ?_) ?_
      · try simp only [Act.put, List.setIfInBounds_toArray, List.set_cons_zero, List.set_cons_succ]
        refine RelO.next (k' := 1) rfl (fun W gW hF => ?_) ?_
        focus
          refine OpOK.val (u := .pointer (some ⟨B, 8, none⟩)) (by rfl) ?_ (fun W' _ => rfl)
          try simp only [tupAt]
          first | (go_simp; done) | (go_simp; with_reducible rfl) | (go_simp; rfl)
        try simp only [Act.put, List.setIfInBounds_toArray, List.set_cons_zero, List.set_cons_succ]
        refine RelO.next (k' := 2) rfl (fun W gW hF => ?_) ?_
        focus
          obtain ⟨h0, _⟩ := hF
          have e0 : val 0 = .pointer (some ⟨B, 8, none⟩) := h0 _ (Frm.refl _ W)
          try simp only [e0]
          try simp only [tupAt]
          have c8 := (HF.out.keep (D.trans gW)).blk.cell 8 rfl
          have a3 := Try.isAgg37
          have z3 := Try.sizeOf37
          exact OpOK.val (u := u) (by rfl) (by first | (go_simp; done) | (go_simp; with_reducible rfl) | (go_simp; rfl)) (fun W' _ => rfl)
        try simp only [Act.put, List.setIfInBounds_toArray, List.set_cons_zero, List.set_cons_succ]
        refine RelO.next (k' := 3) rfl (fun W gW hF => ?_) ?_
        focus
          exact OpOK.load (by rfl) _ rfl (by rfl) (load_dotB (HX.out W (D.trans gW))) (fun W' _ => rfl)
        try simp only [Act.put, List.setIfInBounds_toArray, List.set_cons_zero, List.set_cons_succ]
        refine RelO.next (k' := 4) rfl (fun W gW hF => ?_) ?_
        focus
          refine OpOK.val (u := .pointer (some ⟨Bx, 0, none⟩)) (by rfl) ?_ (fun W' _ => rfl)
          try simp only [tupAt]
          first | (go_simp; done) | (go_simp; with_reducible rfl) | (go_simp; rfl)
        try simp only [Act.put, List.setIfInBounds_toArray, List.set_cons_zero, List.set_cons_succ]
        refine RelO.next (k' := 5) rfl (fun W gW hF => ?_) ?_
        focus
          obtain ⟨h3, _⟩ := hF
          have e3 : val 3 = .pointer (some ⟨Bx, 0, none⟩) := h3 _ (Frm.refl _ W)
          try simp only [e3]
          try simp only [tupAt]
          have c0 := (HX.out W (D.trans gW)).cell 0 rfl
          exact OpOK.val (u := .int .u8 (x.r : Int)) (by rfl) (by first | (go_simp; done) | (go_simp; with_reducible rfl) | (go_simp; rfl)) (fun W' _ => rfl)
        try simp only [Act.put, List.setIfInBounds_toArray, List.set_cons_zero, List.set_cons_succ]
        refine RelO.next (k' := 6) rfl (fun W gW hF => ?_) ?_
        focus
          refine OpOK.val (u := .pointer (some ⟨Bx, 1, none⟩)) (by rfl) ?_ (fun W' _ => rfl)
          try simp only [tupAt]
          first | (go_simp; done) | (go_simp; with_reducible rfl) | (go_simp; rfl)
        try simp only [Act.put, List.setIfInBounds_toArray, List.set_cons_zero, List.set_cons_succ]
        refine RelO.next (k' := 7) rfl (fun W gW hF => ?_) ?_
        focus
          obtain ⟨h5, _⟩ := hF
          have e5 : val 5 = .pointer (some ⟨Bx, 1, none⟩) := h5 _ (Frm.refl _ W)
          try simp only [e5]
          try simp only [tupAt]
          have c0 := (HX.out W (D.trans gW)).cell 1 rfl
          exact OpOK.val (u := .int .u32 (x.n : Int)) (by rfl) (by first | (go_simp; done) | (go_simp; with_reducible rfl) | (go_simp; rfl)) (fun W' _ => rfl)
        try simp only [Act.put, List.setIfInBounds_toArray, List.set_cons_zero, List.set_cons_succ]
        refine RelO.next (k' := 8) rfl (fun W gW hF => ?_) ?_
        focus
          obtain ⟨h6, _⟩ := hF
          have e6 : val 6 = .int .u32 (x.n : Int) := h6 _ (Frm.refl _ W)
          try simp only [e6]
          try simp only [tupAt]
          refine OpOK.val (u := .int .u8 ((UInt8.ofNat x.n).toNat : Int)) (by rfl) ?_ (fun W' _ => rfl)
          go_simp
          exact u8_wrap _
        try simp only [Act.put, List.setIfInBounds_toArray, List.set_cons_zero, List.set_cons_succ]
        refine RelO.next (k' := 9) rfl (fun W gW hF => ?_) ?_
        focus
          refine OpOK.val (u := .pointer (some ⟨Bx, 1, none⟩)) (by rfl) ?_ (fun W' _ => rfl)
          try simp only [tupAt]
          first | (go_simp; done) | (go_simp; with_reducible rfl) | (go_simp; rfl)
        try simp only [Act.put, List.setIfInBounds_toArray, List.set_cons_zero, List.set_cons_succ]
        refine RelO.next (k' := 10) rfl (fun W gW hF => ?_) ?_
        focus
          obtain ⟨h8, _⟩ := hF
          have e8 : val 8 = .pointer (some ⟨Bx, 1, none⟩) := h8 _ (Frm.refl _ W)
          try simp only [e8]
          try simp only [tupAt]
          have c0 := (HX.out W (D.trans gW)).cell 1 rfl
          exact OpOK.val (u := .int .u32 (x.n : Int)) (by rfl) (by first | (go_simp; done) | (go_simp; with_reducible rfl) | (go_simp; rfl)) (fun W' _ => rfl)
        try simp only [Act.put, List.setIfInBounds_toArray, List.set_cons_zero, List.set_cons_succ]
        refine RelO.next (k' := 11) rfl (fun W gW hF => ?_) ?_
        focus
          obtain ⟨h9, _⟩ := hF
          have e9 : val 9 = .int .u32 (x.n : Int) := h9 _ (Frm.refl _ W)
          try simp only [e9]
          try simp only [tupAt]
          refine OpOK.val (u := .int .u32 ((x.n / 256 : Nat) : Int)) (by rfl) ?_ (fun W' _ => rfl)
          go_simp
        try simp only [Act.put, List.setIfInBounds_toArray, List.set_cons_zero, List.set_cons_succ]
        refine RelO.next (k' := 12) rfl (fun W gW hF => ?_) ?_
        focus
          obtain ⟨h10, _⟩ := hF
          have e10 : val 10 = .int .u32 ((x.n / 256 : Nat) : Int) := h10 _ (Frm.refl _ W)
          try simp only [e10]
          try simp only [tupAt]
          refine OpOK.val (u := .int .u8 ((UInt8.ofNat (x.n / 256)).toNat : Int)) (by rfl) ?_ (fun W' _ => rfl)
          go_simp
          exact u8_wrap _
        try simp only [Act.put, List.setIfInBounds_toArray, List.set_cons_zero, List.set_cons_succ]
        refine RelO.next (k' := 13) rfl (fun W gW hF => ?_) ?_
        focus
          obtain ⟨h4, h7, h11, _⟩ := hF
          have e4 : val 4 = .int .u8 (x.r : Int) := h4 _ (Frm.refl _ W)
          have e7 : val 7 = .int .u8 ((UInt8.ofNat x.n).toNat : Int) := h7 _ (Frm.refl _ W)
          have e11 : val 11 = .int .u8 ((UInt8.ofNat (x.n / 256)).toNat : Int) := h11 _ (Frm.refl _ W)
          try simp only [e11]
          try simp only [e7]
          try simp only [e4]
          try simp only [tupAt]
          refine OpOK.made (W' := W.alloc (.cells #[.int .u8 (x.r : Int), .int .u8 ((UInt8.ofNat x.n).toNat : Int), .int .u8 ((UInt8.ofNat (x.n / 256)).toNat : Int)] 5)) (u := .slice (some ⟨W.heap.size, 0, none⟩) 3 3) (by rfl) ?_ ((Frm.refl _ W).alloc _) (fun W2 g2 => ⟨W.heap.size, rfl, (Blk.alloc W _ _).keep g2 (fun h => h)⟩)
          first | (go_simp; done) | (go_simp; with_reducible rfl) | (go_simp; rfl)
        try simp only [Act.put, List.setIfInBounds_toArray, List.set_cons_zero, List.set_cons_succ]
        refine RelO.next (k' := 14) rfl (fun W gW hF => ?_) ?_
        focus
          obtain ⟨h12, _⟩ := hF
          have q12 : ∃ b, (val 12) = .slice (some ⟨b, 0, none⟩) 3 3 ∧ Blk W b 5 #[.int .u8 (x.r : Int), .int .u8 ((UInt8.ofNat x.n).toNat : Int), .int .u8 ((UInt8.ofNat (x.n / 256)).toNat : Int)] := h12 _ (Frm.refl _ W)
          obtain ⟨b34, e12, o34⟩ := q12
          try simp only [e12]
          try simp only [tupAt]
          have E := text_of3 W b34 x o34
          exact OpOK.val (u := .string (bs (Vd x.d))) (by rfl) (by first | (go_simp; done) | (go_simp; with_reducible rfl) | (go_simp; rfl)) (fun W' _ => rfl)
        try simp only [Act.put, List.setIfInBounds_toArray, List.set_cons_zero, List.set_cons_succ]
        refine RelO.next (k' := 15) rfl (fun W gW hF => ?_) ?_
        focus
          obtain ⟨h2, h13, _⟩ := hF
          have e2 : val 2 = .agg (dv x.r x.n) := h2 _ (Frm.refl _ W)
          have e13 : val 13 = .string (bs (Vd x.d)) := h13 _ (Frm.refl _ W)
          try simp only [e13]
          try simp only [e2]
          try simp only [tupAt]
          refine OpOK.val (u := .agg #[.int .u8 x.r, .int .u32 x.n, .string (bs (Vd x.d))]) (by rfl) ?_ (fun W' _ => rfl)
          try simp only [e13]
          try simp only [e2]
          try simp only [tupAt]
          first | (go_simp; done) | (go_simp; with_reducible rfl) | (go_simp; rfl)
        try simp only [Act.put, List.setIfInBounds_toArray, List.set_cons_zero, List.set_cons_succ]
        refine RelO.next (k' := 16) rfl (fun W gW hF => ?_) ?_
        focus
          obtain ⟨h14, _⟩ := hF
          have e14 : val 14 = .agg #[.int .u8 x.r, .int .u32 x.n, .string (bs (Vd x.d))] := h14 _ (Frm.refl _ W)
          try simp only [e14]
          try simp only [tupAt]
          refine OpOK.made (W' := W.alloc (.cells #[.int .u8 x.r, .int .u32 x.n, .string (bs (Vd x.d))] 76)) (u := .slice (some ⟨W.heap.size, 0, none⟩) 1 1) (by rfl) ?_ ((Frm.refl _ W).alloc _) (fun W2 g2 => ⟨_, rfl, (Sl.one W 76 (by1 x)).keepF g2⟩)
          first | (go_simp; done) | (go_simp; with_reducible rfl) | (go_simp; rfl)
        try simp only [Act.put, List.setIfInBounds_toArray, List.set_cons_zero, List.set_cons_succ]
        exact RelO.nil
      intro val W gW hF
      obtain ⟨h0, h1, h2, h3, h4, h5, h6, h7, h8, h9, h10, h11, h12, h13, h14, h15, hT⟩ := hF
      have e0 : val 0 = .pointer (some ⟨B, 8, none⟩) := h0 _ (Frm.refl _ W)
      have e1 : val 1 = u := h1 _ (Frm.refl _ W)
      have e2 : val 2 = .agg (dv x.r x.n) := h2 _ (Frm.refl _ W)
      have e3 : val 3 = .pointer (some ⟨Bx, 0, none⟩) := h3 _ (Frm.refl _ W)
      have e4 : val 4 = .int .u8 (x.r : Int) := h4 _ (Frm.refl _ W)
      have e5 : val 5 = .pointer (some ⟨Bx, 1, none⟩) := h5 _ (Frm.refl _ W)
      have e6 : val 6 = .int .u32 (x.n : Int) := h6 _ (Frm.refl _ W)
      have e7 : val 7 = .int .u8 ((UInt8.ofNat x.n).toNat : Int) := h7 _ (Frm.refl _ W)
      have e8 : val 8 = .pointer (some ⟨Bx, 1, none⟩) := h8 _ (Frm.refl _ W)
      have e9 : val 9 = .int .u32 (x.n : Int) := h9 _ (Frm.refl _ W)
      have e10 : val 10 = .int .u32 ((x.n / 256 : Nat) : Int) := h10 _ (Frm.refl _ W)
      have e11 : val 11 = .int .u8 ((UInt8.ofNat (x.n / 256)).toNat : Int) := h11 _ (Frm.refl _ W)
      have q12 : ∃ b, (val 12) = .slice (some ⟨b, 0, none⟩) 3 3 ∧ Blk W b 5 #[.int .u8 (x.r : Int), .int .u8 ((UInt8.ofNat x.n).toNat : Int), .int .u8 ((UInt8.ofNat (x.n / 256)).toNat : Int)] := h12 _ (Frm.refl _ W)
      obtain ⟨b34, e12, o34⟩ := q12
      have e13 : val 13 = .string (bs (Vd x.d)) := h13 _ (Frm.refl _ W)
      have e14 : val 14 = .agg #[.int .u8 x.r, .int .u32 x.n, .string (bs (Vd x.d))] := h14 _ (Frm.refl _ W)
      have q15 : ∃ z, (val 15) = z ∧ SL W z [by1 x] := h15 _ (Frm.refl _ W)
      obtain ⟨x37, e15, o37⟩ := q15
      clear hT h0 h1 h2 h3 h4 h5 h6 h7 h8 h9 h10 h11 h12 h13 h14 h15
      simp only [aO, Act.put, List.setIfInBounds_toArray, List.set_cons_zero, List.set_cons_succ, Nat.reduceAdd]
      try simp only [e15]
      try simp only [e14]
      try simp only [e13]
      try simp only [e12]
      try simp only [e11]
      try simp only [e10]
      try simp only [e9]
      try simp only [e8]
      try simp only [e7]
      try simp only [e6]
      try simp only [e5]
      try simp only [e4]
      try simp only [e3]
      try simp only [e2]
      try simp only [e1]
      try simp only [e0]
      try simp only [tupAt]
      refine tail_fillS (w0 := w1) B f ((l.take k).map by1) [by1 x] (by simp only [List.length_singleton]; omega) u x37 rfl rfl rfl rfl rfl rfl rfl rfl rfl rfl rfl rfl rfl rfl (HF.out.keep (D.trans gW)) o37 (fun v' W' => ?_) (fun v' => rfl) (fun v' => rfl) ?_
      · first | (go_simp; done) | (go_simp; with_reducible rfl) | (go_simp; rfl)
      intro v' w' F2
      try simp only [Act.put, List.setIfInBounds_toArray, List.set_cons_zero, List.set_cons_succ]
      refine hK _ _ ?_
      rw [show (l.take k).map by1 ++ [by1 x] = (l.take (k + 1)).map by1 from by rw [List.take_succ_eq_append_getElem hlt, List.map_append, List.map_singleton, HX1.out]] at F2
      clear e0 e1 e2 e3 e4 e5 e6 e7 e8 e9 e10 e11 e12 e13 e14 e15 o34 o37 gW hK hle
      go_wp2_with fail
      go_roundw
      case rel => exact ⟨k + 1, v', by omega, by go_num, F2⟩
      case measure => simp [intOf]; omega
    · obtain rfl : k = l.length := by omega
      have F8 := HF0.out
      rw [List.take_length] at F8
      have b1 := HB1.out wr F8.frm
      have lR := load_reg F8.blk
      obtain ⟨a3, c3, rfl, _, _⟩ := Row.slice F8.own
      have hlo := fun g e => (F8.out g e).1
      have hg0 := g0.size
      clear hlt
      go_wp2_with (first
        | ((with_reducible refine wpl_load rfl _ rfl ?_ lR ?_); (focus rfl))
        | ((with_reducible refine wpl_store_blk rfl 39 _ _ rfl (N + 1) (rgc f (.slice a3 (l.map by1).length c3)) rz ?_ ?_ b1 rfl ?_ ?_ ?_); (focus rfl); (focus rfl); (focus (show _ = some 9; kernel_rfl)); (focus (simp [Value.oneCell'])); intro w5 e5 g5 z5; have h2 := rcells e5; have c9 := e5.cell 8 rfl))
      refine bodyPost_ret (v := rg f (.slice a3 (l.map by1).length c3)) (by simp [results, Try.results42, go_sem, h2, c9]) rfl ?_
      exact ⟨_, rfl, F8.own.keep g5 (fun g e h => by have h : g = N + 1 := h; have := hlo g e; have := HN1.out; omega), (g0.trans F8.frm).next g5 (fun k hk h => by have h : k = N + 1 := h; have := HN.out; omega), fun g e => by have := hlo g e; omega⟩

set_option maxRecDepth 100000 in
set_option maxHeartbeats 2000000 in
theorem equal_any (f g : Nat → Nat) (v1 v2 : Value) (l m : List SibI) (w : World) (h1 : SL w v1 l) (h2 : SL w v2 m) :
    Calls Try.prog 43 #[rg f v1, rg g v2] w fun e w' => e = .returned (.bool (eq8 f g && decide (l = m))) ∧ Frm (fun _ => False) w w' := by
  obtain ⟨a, cap, rfl, _, _⟩ := h1.slice
  obtain ⟨b, capb, rfl, _, _⟩ := h2.slice
  have g0 : Frm (fun _ => False) w ((w.alloc (.cells (rgc f (.slice a l.length cap)) 39)).alloc (.cells (rgc g (.slice b m.length capb)) 39)) := ((Frm.refl _ w).alloc _).alloc _
  have b0 : Blk ((w.alloc (.cells (rgc f (.slice a l.length cap)) 39)).alloc (.cells (rgc g (.slice b m.length capb)) 39)) w.heap.size 39 (rgc f (.slice a l.length cap)) := (Blk.alloc w _ _).old _
  have b1 : Blk ((w.alloc (.cells (rgc f (.slice a l.length cap)) 39)).alloc (.cells (rgc g (.slice b m.length capb)) 39)) (w.heap.size + 1) 39 (rgc g (.slice b m.length capb)) := Blk.at1 w _ _ _
  have h1' := h1.keepF g0
  have h2' := h2.keepF g0
  go_enter Try.func43, Try.ntmps43
  go_upto_region 1 with fail
  generalize (w.alloc (.cells (rgc f (.slice a l.length cap)) 39)).alloc (.cells (rgc g (.slice b m.length capb)) 39) = w0 at *
  have HI := Lib.hid (is_any f g _ _ l m w0 h1' h2')
  have l0 := load_reg b0
  have l1 := load_ctx b1
  have c8 := b1.cell 8 rfl
  have a3 := Try.isAgg37
  have z3 := Try.sizeOf37
  clear h1' h2' h1 h2
  go_wp2_with (first | ((with_reducible refine wpl_load rfl _ rfl ?_ l0 ?_); (focus rfl)) | ((with_reducible refine wpl_load rfl _ rfl ?_ l1 ?_); (focus rfl)))
  refine HI.out.mono ?_
  rintro e w1 ⟨rfl, g1⟩
  go_wp2_with fail
  go_ret
  exact ⟨rfl, g0.trans g1⟩

end Go.Proofs.Ytmdmkcofafhlcaa

