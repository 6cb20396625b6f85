/- A register as the document's. No condition. -/
import Derived.Test.YtojbgckabifnjaaSwB
namespace Go.Proofs.Ytojbgckabifnjaa
open Go.RowKit

def th5M : List Nat := [1, 3, 4, 12, 16, 60, 124, 252, 256, 768, 1024, 3840, 7936, 16128, 32764, 65532, 131071, 196607, 327679]
def th5R (u : Value) (B N g off k n cap : Nat) (x : SibI) : List ((Nat → Value) → World → Prop) := [
  fun val _ => val 0 = .pointer (some ⟨B, 8, none⟩),
  fun val _ => val 1 = u,
  fun val _ => val 2 = .pointer (some ⟨N, 8, none⟩),
  fun val _ => val 3 = .slice (some ⟨g, off, none⟩) n cap,
  fun val _ => val 4 = .int .i64 (k : Int),
  fun val _ => val 5 = .pointer (some ⟨g, off + k * 3, none⟩),
  fun val _ => val 6 = .pointer (some ⟨g, off + k * 3, none⟩),
  fun val _ => val 7 = .agg (dv x.r x.n),
  fun val _ => val 8 = .pointer (some ⟨N, 8, none⟩),
  fun val _ => val 9 = .slice (some ⟨g, off, none⟩) n cap,
  fun val _ => val 10 = .int .i64 (k : Int),
  fun val _ => val 11 = .pointer (some ⟨g, off + k * 3, none⟩),
  fun val _ => val 12 = .pointer (some ⟨g, off + k * 3 + 2, none⟩),
  fun val _ => val 13 = .string (bs x.s),
  fun val _ => val 14 = .agg #[.int .u8 x.r, .int .u32 x.n, .string (bs x.s)],
  fun val W => ∃ z, (val 15) = z ∧ SL W z [x]]

set_option maxRecDepth 100000 in
set_option maxHeartbeats 4000000 in
theorem their_any (f : Nat → Nat) (v : Value) (l : List SibI) (w : World) (h : SL w v l) (hb : l.length ≤ 1000) :
    Calls Try.prog 20 #[rg f v] w (NewR f l w) := by
  obtain ⟨a, cap, rfl, h1, h2⟩ := h.slice
  unfold maxLen at h2
  have g0 : Frm (fun _ => False) w ((w.alloc (.cells (rgc f (.slice a l.length cap)) 39)).alloc (.cells rz 47)) := ((Frm.refl _ w).alloc _).alloc _
  have b0 : Blk ((w.alloc (.cells (rgc f (.slice a l.length cap)) 39)).alloc (.cells rz 47)) w.heap.size 39 (rgc f (.slice a l.length cap)) := (Blk.alloc w _ _).old _
  have b1 : Blk ((w.alloc (.cells (rgc f (.slice a l.length cap)) 39)).alloc (.cells rz 47)) (w.heap.size + 1) 47 rz := Blk.at1 w _ _ _
  go_enter Try.func20, Try.ntmps20
  go_upto_region 1 with fail
  generalize (w.alloc (.cells (rgc f (.slice a l.length cap)) 39)).alloc (.cells rz 47) = w1 at *
  obtain ⟨N, hN⟩ : ∃ N, w.heap.size = N := ⟨_, rfl⟩
  have HN := Lib.hid hN
  rw [hN] at b0 b1 ⊢
  clear hN
  have lf := load_ctx b0
  have b2 := Blk.alloc w1 47 rz
  have hN1 := b1.lt
  have HN1 := Lib.hid hN1
  go_upto_region 2 with (first
    | ((with_reducible refine wpl_load rfl _ rfl ?_ lf ?_); (focus rfl))
    | ((with_reducible refine wpl_store_blk rfl 47 _ _ rfl w1.heap.size (rgc f (.slice none 0 0)) rz ?_ ?_ b2 rfl ?_ ?_ ?_); (focus rfl); (focus rfl); (focus (show _ = some 9; kernel_rfl)); (focus (simp [Value.oneCell'])); intro w2 e2 g2 z2))
  obtain ⟨B, hB⟩ : ∃ B, w1.heap.size = B := ⟨_, rfl⟩
  have HLT := Lib.hid (show w1.heap.size ≤ B from Nat.le_of_eq hB)
  have g2' : Frm (fun _ => False) w1 w2 := ((Frm.refl _ w1).alloc _).next g2 (fun k hk h => by have h : k = w1.heap.size := h; omega)
  have HB := Lib.hid (fun W (g : Frm (fun _ => False) w1 W) => b0.keep g (fun h => h))
  have HB1 := Lib.hid (fun W (g : Frm (fun _ => False) w1 W) => b1.keep g (fun h => h))
  rw [hB] at e2 hN1 ⊢
  have F0 : FillT 47 w1 B f (l.take 0) (.slice none 0 0) w2 := ⟨e2, by rw [List.take_zero]; exact OwnL.nil_ _, fun _ h => (by cases h), g2', HLT.out⟩
  clear lf b2 g2 z2 hB b0 b1 g2' e2
  have hs := h.keepF g0
  go_wp2_with fail
  go_loopw [4] (fun i wr => ∃ (k : Nat) (u : Value), k ≤ l.length ∧ i = .int .i64 k ∧ FillT 47 w1 B f (l.take k) u wr) (fun i _ => l.length - (intOf i).toNat)
  case atStart => exact ⟨0, _, Nat.zero_le _, rfl, F0⟩
  case round =>
    obtain ⟨k, u, hk, rfl, F1⟩ := hrel
    clear F0
    have HF := Lib.hid F1
    have c8 := (HB.out wr F1.frm).cell 8 rfl
    clear F1
    by_cases hlt : k < l.length
    · obtain ⟨g, off, rfl, _, _, _⟩ := hs.cells k hlt
      have HX : Hid (∀ W, Frm (fun _ => False) wr W → W.cell? ⟨g, off + k * 3, none⟩ = some (.int .u8 l[k].r) ∧ W.cell? ⟨g, off + k * 3 + 1, none⟩ = some (.int .u32 l[k].n) ∧ W.cell? ⟨g, off + k * 3 + 2, none⟩ = some (.string (bs l[k].s))) := Lib.hid fun W gW => by
        obtain ⟨g2, off2, e, x0, x1, x2⟩ := (hs.keepF (HF.out.frm.trans gW)).cells k hlt
        cases e
        exact ⟨x0, x1, x2⟩
      replace HB : Hid (∀ W, Frm (fun _ => False) wr W → Blk W N 39 (rgc f (.slice (some ⟨g, off, none⟩) l.length cap))) := Lib.hid fun W gW => HB.out W (HF.out.frm.trans gW)
      obtain ⟨x, hx⟩ : ∃ x, l[k] = x := ⟨_, rfl⟩
      obtain ⟨n, hn⟩ : ∃ n, l.length = n := ⟨_, rfl⟩
      rw [hx] at HX
      rw [hn] at HB
      have HX1 := Lib.hid hx
      have HN2 := Lib.hid hn
      have hki' : (k : Int) < (l.length : Int) := by omega
      have hki : (k : Int) < (n : Int) := by omega
      have hk0 : (0 : Int) ≤ (k : Int) := by omega
      clear hx hn
      go_upto_region 5 with fail
      rename_i hK
      clear c8
      have D : Frm (fun _ => False) wr wr.drew := (Frm.refl _ _).drew
      refine wp_region_late 16 3 [] [[], [0], [], [2], [], [3, 4], [5], [6], [], [8], [], [9, 10], [11], [12], [7, 13], [14]] th5M (th5R u B N g off k n cap x) (by kernel_rfl) rfl rfl rfl (by kernel_rfl) (by kernel_rfl) (by kernel_rfl) (by kernel_rfl) rfl (by kernel_rfl) (by kernel_rfl) (by kernel_rfl) (by kernel_rfl) (fun val => ?_) ?_
      · try simp only [Act.put, List.setIfInBounds_toArray, List.set_cons_zero, List.set_cons_succ]
        refine RelO.next (k' := 1) rfl (fun W gW hF => ?_) ?_
        focus
          refine OpOK.val (u := .pointer (some ⟨B, 8, none⟩)) (by rfl) ?_ (fun W' _ => rfl)
          try simp only [tupAt]
          first | (go_simp; done) | (go_simp; with_reducible rfl) | (go_simp; rfl)
        try simp only [Act.put, List.setIfInBounds_toArray, List.set_cons_zero, List.set_cons_succ]
        refine RelO.next (k' := 2) rfl (fun W gW hF => ?_) ?_
        focus
          obtain ⟨h0, _⟩ := hF
          have e0 : val 0 = .pointer (some ⟨B, 8, none⟩) := h0 _ (Frm.refl _ W)
          try simp only [e0]
          try simp only [tupAt]
          have c8 := (HF.out.keep (D.trans gW)).blk.cell 8 rfl
          have a3 := Try.isAgg45
          have z3 := Try.sizeOf45
          exact OpOK.val (u := u) (by rfl) (by first | (go_simp; done) | (go_simp; with_reducible rfl) | (go_simp; rfl)) (fun W' _ => rfl)
        try simp only [Act.put, List.setIfInBounds_toArray, List.set_cons_zero, List.set_cons_succ]
        refine RelO.next (k' := 3) rfl (fun W gW hF => ?_) ?_
        focus
          refine OpOK.val (u := .pointer (some ⟨N, 8, none⟩)) (by rfl) ?_ (fun W' _ => rfl)
          try simp only [tupAt]
          first | (go_simp; done) | (go_simp; with_reducible rfl) | (go_simp; rfl)
        try simp only [Act.put, List.setIfInBounds_toArray, List.set_cons_zero, List.set_cons_succ]
        refine RelO.next (k' := 4) rfl (fun W gW hF => ?_) ?_
        focus
          obtain ⟨h2, _⟩ := hF
          have e2 : val 2 = .pointer (some ⟨N, 8, none⟩) := h2 _ (Frm.refl _ W)
          try simp only [e2]
          try simp only [tupAt]
          have c8 := (HB.out W (D.trans gW)).cell 8 rfl
          have a3 := Try.isAgg37
          have z3 := Try.sizeOf37
          exact OpOK.val (u := .slice (some ⟨g, off, none⟩) n cap) (by rfl) (by first | (go_simp; done) | (go_simp; with_reducible rfl) | (go_simp; rfl)) (fun W' _ => rfl)
        try simp only [Act.put, List.setIfInBounds_toArray, List.set_cons_zero, List.set_cons_succ]
        refine RelO.next (k' := 5) rfl (fun W gW hF => ?_) ?_
        focus
          refine OpOK.val (u := .int .i64 (k : Int)) (by rfl) ?_ (fun W' _ => rfl)
          try simp only [tupAt]
          first | (go_simp; done) | (go_simp; with_reducible rfl) | (go_simp; rfl)
        try simp only [Act.put, List.setIfInBounds_toArray, List.set_cons_zero, List.set_cons_succ]
        refine RelO.next (k' := 6) rfl (fun W gW hF => ?_) ?_
        focus
          obtain ⟨h3, h4, _⟩ := hF
          have e3 : val 3 = .slice (some ⟨g, off, none⟩) n cap := h3 _ (Frm.refl _ W)
          have e4 : val 4 = .int .i64 (k : Int) := h4 _ (Frm.refl _ W)
          try simp only [e4]
          try simp only [e3]
          try simp only [tupAt]
          refine OpOK.val (u := .pointer (some ⟨g, off + k * 3, none⟩)) (by rfl) ?_ (fun W' _ => rfl)
          try simp only [e4]
          try simp only [e3]
          try simp only [tupAt]
          first | (go_simp; done) | (go_simp; with_reducible rfl) | (go_simp; rfl)
        try simp only [Act.put, List.setIfInBounds_toArray, List.set_cons_zero, List.set_cons_succ]
        refine RelO.next (k' := 7) rfl (fun W gW hF => ?_) ?_
        focus
          obtain ⟨h5, _⟩ := hF
          have e5 : val 5 = .pointer (some ⟨g, off + k * 3, none⟩) := h5 _ (Frm.refl _ W)
          try simp only [e5]
          try simp only [tupAt]
          refine OpOK.val (u := .pointer (some ⟨g, off + k * 3, none⟩)) (by rfl) ?_ (fun W' _ => rfl)
          try simp only [e5]
          try simp only [tupAt]
          first | (go_simp; done) | (go_simp; with_reducible rfl) | (go_simp; rfl)
        try simp only [Act.put, List.setIfInBounds_toArray, List.set_cons_zero, List.set_cons_succ]
        refine RelO.next (k' := 8) rfl (fun W gW hF => ?_) ?_
        focus
          obtain ⟨h6, _⟩ := hF
          have e6 : val 6 = .pointer (some ⟨g, off + k * 3, none⟩) := h6 _ (Frm.refl _ W)
          try simp only [e6]
          try simp only [tupAt]
          obtain ⟨x0, x1, x2⟩ := HX.out W (D.trans gW)
          exact OpOK.val (u := .agg (dv x.r x.n)) (by rfl) (by first | (go_simp; done) | (go_simp; with_reducible rfl) | (go_simp; rfl)) (fun W' _ => rfl)
        try simp only [Act.put, List.setIfInBounds_toArray, List.set_cons_zero, List.set_cons_succ]
        refine RelO.next (k' := 9) rfl (fun W gW hF => ?_) ?_
        focus
          refine OpOK.val (u := .pointer (some ⟨N, 8, none⟩)) (by rfl) ?_ (fun W' _ => rfl)
          try simp only [tupAt]
          first | (go_simp; done) | (go_simp; with_reducible rfl) | (go_simp; rfl)
        try simp only [Act.put, List.setIfInBounds_toArray, List.set_cons_zero, List.set_cons_succ]
        refine RelO.next (k' := 10) rfl (fun W gW hF => ?_) ?_
        focus
          obtain ⟨h8, _⟩ := hF
          have e8 : val 8 = .pointer (some ⟨N, 8, none⟩) := h8 _ (Frm.refl _ W)
          try simp only [e8]
          try simp only [tupAt]
          have c8 := (HB.out W (D.trans gW)).cell 8 rfl
          have a3 := Try.isAgg37
          have z3 := Try.sizeOf37
          exact OpOK.val (u := .slice (some ⟨g, off, none⟩) n cap) (by rfl) (by first | (go_simp; done) | (go_simp; with_reducible rfl) | (go_simp; rfl)) (fun W' _ => rfl)
        try simp only [Act.put, List.setIfInBounds_toArray, List.set_cons_zero, List.set_cons_succ]
        refine RelO.next (k' := 11) rfl (fun W gW hF => ?_) ?_
        focus
          refine OpOK.val (u := .int .i64 (k : Int)) (by rfl) ?_ (fun W' _ => rfl)
          try simp only [tupAt]
          first | (go_simp; done) | (go_simp; with_reducible rfl) | (go_simp; rfl)
        try simp only [Act.put, List.setIfInBounds_toArray, List.set_cons_zero, List.set_cons_succ]
        refine RelO.next (k' := 12) rfl (fun W gW hF => ?_) ?_
        focus
          obtain ⟨h9, h10, _⟩ := hF
          have e9 : val 9 = .slice (some ⟨g, off, none⟩) n cap := h9 _ (Frm.refl _ W)
          have e10 : val 10 = .int .i64 (k : Int) := h10 _ (Frm.refl _ W)
          try simp only [e10]
          try simp only [e9]
          try simp only [tupAt]
          refine OpOK.val (u := .pointer (some ⟨g, off + k * 3, none⟩)) (by rfl) ?_ (fun W' _ => rfl)
          try simp only [e10]
          try simp only [e9]
          try simp only [tupAt]
          first | (go_simp; done) | (go_simp; with_reducible rfl) | (go_simp; rfl)
        try simp only [Act.put, List.setIfInBounds_toArray, List.set_cons_zero, List.set_cons_succ]
        refine RelO.next (k' := 13) rfl (fun W gW hF => ?_) ?_
        focus
          obtain ⟨h11, _⟩ := hF
          have e11 : val 11 = .pointer (some ⟨g, off + k * 3, none⟩) := h11 _ (Frm.refl _ W)
          try simp only [e11]
          try simp only [tupAt]
          refine OpOK.val (u := .pointer (some ⟨g, off + k * 3 + 2, none⟩)) (by rfl) ?_ (fun W' _ => rfl)
          try simp only [e11]
          try simp only [tupAt]
          first | (go_simp; done) | (go_simp; with_reducible rfl) | (go_simp; rfl)
        try simp only [Act.put, List.setIfInBounds_toArray, List.set_cons_zero, List.set_cons_succ]
        refine RelO.next (k' := 14) rfl (fun W gW hF => ?_) ?_
        focus
          obtain ⟨h12, _⟩ := hF
          have e12 : val 12 = .pointer (some ⟨g, off + k * 3 + 2, none⟩) := h12 _ (Frm.refl _ W)
          try simp only [e12]
          try simp only [tupAt]
          obtain ⟨x0, x1, x2⟩ := HX.out W (D.trans gW)
          exact OpOK.val (u := .string (bs x.s)) (by rfl) (by first | (go_simp; done) | (go_simp; with_reducible rfl) | (go_simp; rfl)) (fun W' _ => rfl)
        try simp only [Act.put, List.setIfInBounds_toArray, List.set_cons_zero, List.set_cons_succ]
        refine RelO.next (k' := 15) rfl (fun W gW hF => ?_) ?_
        focus
          obtain ⟨h7, h13, _⟩ := hF
          have e7 : val 7 = .agg (dv x.r x.n) := h7 _ (Frm.refl _ W)
          have e13 : val 13 = .string (bs x.s) := h13 _ (Frm.refl _ W)
          try simp only [e13]
          try simp only [e7]
          try simp only [tupAt]
          refine OpOK.val (u := .agg #[.int .u8 x.r, .int .u32 x.n, .string (bs x.s)]) (by rfl) ?_ (fun W' _ => rfl)
          try simp only [e13]
          try simp only [e7]
          try simp only [tupAt]
          first | (go_simp; done) | (go_simp; with_reducible rfl) | (go_simp; rfl)
        try simp only [Act.put, List.setIfInBounds_toArray, List.set_cons_zero, List.set_cons_succ]
        refine RelO.next (k' := 16) rfl (fun W gW hF => ?_) ?_
        focus
          obtain ⟨h14, _⟩ := hF
          have e14 : val 14 = .agg #[.int .u8 x.r, .int .u32 x.n, .string (bs x.s)] := h14 _ (Frm.refl _ W)
          try simp only [e14]
          try simp only [tupAt]
          refine OpOK.made (W' := W.alloc (.cells #[.int .u8 x.r, .int .u32 x.n, .string (bs x.s)] 105)) (u := .slice (some ⟨W.heap.size, 0, none⟩) 1 1) (by rfl) ?_ ((Frm.refl _ W).alloc _) (fun W2 g2 => ⟨_, rfl, (Sl.one W 105 x).keepF g2⟩)
          first | (go_simp; done) | (go_simp; with_reducible rfl) | (go_simp; rfl)
        try simp only [Act.put, List.setIfInBounds_toArray, List.set_cons_zero, List.set_cons_succ]
        exact RelO.nil
      intro val W gW hF
      obtain ⟨h0, h1, h2, h3, h4, h5, h6, h7, h8, h9, h10, h11, h12, h13, h14, h15, _⟩ := hF
      have e0 : val 0 = .pointer (some ⟨B, 8, none⟩) := h0 _ (Frm.refl _ W)
      have e1 : val 1 = u := h1 _ (Frm.refl _ W)
      have e2 : val 2 = .pointer (some ⟨N, 8, none⟩) := h2 _ (Frm.refl _ W)
      have e3 : val 3 = .slice (some ⟨g, off, none⟩) n cap := h3 _ (Frm.refl _ W)
      have e4 : val 4 = .int .i64 (k : Int) := h4 _ (Frm.refl _ W)
      have e5 : val 5 = .pointer (some ⟨g, off + k * 3, none⟩) := h5 _ (Frm.refl _ W)
      have e6 : val 6 = .pointer (some ⟨g, off + k * 3, none⟩) := h6 _ (Frm.refl _ W)
      have e7 : val 7 = .agg (dv x.r x.n) := h7 _ (Frm.refl _ W)
      have e8 : val 8 = .pointer (some ⟨N, 8, none⟩) := h8 _ (Frm.refl _ W)
      have e9 : val 9 = .slice (some ⟨g, off, none⟩) n cap := h9 _ (Frm.refl _ W)
      have e10 : val 10 = .int .i64 (k : Int) := h10 _ (Frm.refl _ W)
      have e11 : val 11 = .pointer (some ⟨g, off + k * 3, none⟩) := h11 _ (Frm.refl _ W)
      have e12 : val 12 = .pointer (some ⟨g, off + k * 3 + 2, none⟩) := h12 _ (Frm.refl _ W)
      have e13 : val 13 = .string (bs x.s) := h13 _ (Frm.refl _ W)
      have e14 : val 14 = .agg #[.int .u8 x.r, .int .u32 x.n, .string (bs x.s)] := h14 _ (Frm.refl _ W)
      have q15 : ∃ z, (val 15) = z ∧ SL W z [x] := h15 _ (Frm.refl _ W)
      obtain ⟨x30, e15, o30⟩ := q15
      clear h0 h1 h2 h3 h4 h5 h6 h7 h8 h9 h10 h11 h12 h13 h14 h15
      simp only [aO, Act.put, List.setIfInBounds_toArray, List.set_cons_zero, List.set_cons_succ, Nat.reduceAdd]
      try simp only [e15]
      try simp only [e14]
      try simp only [e13]
      try simp only [e12]
      try simp only [e11]
      try simp only [e10]
      try simp only [e9]
      try simp only [e8]
      try simp only [e7]
      try simp only [e6]
      try simp only [e5]
      try simp only [e4]
      try simp only [e3]
      try simp only [e2]
      try simp only [e1]
      try simp only [e0]
      try simp only [tupAt]
      refine tail_fillR (w0 := w1) B f (l.take k) [x] (by rw [List.length_take]; simp; omega) u x30 rfl rfl rfl rfl rfl rfl rfl rfl rfl rfl rfl rfl rfl rfl (HF.out.keep (D.trans gW)) o30 (fun v' W' => ?_) (fun v' => rfl) (fun v' => rfl) ?_
      · first | (go_simp; done) | (go_simp; with_reducible rfl) | (go_simp; rfl)
      intro v' w' F2
      try simp only [Act.put, List.setIfInBounds_toArray, List.set_cons_zero, List.set_cons_succ]
      refine hK _ _ ?_
      rw [← HX1.out, ← List.take_succ_eq_append_getElem hlt] at F2
      clear e0 e1 e2 e3 e4 e5 e6 e7 e8 e9 e10 e11 e12 e13 e14 o30 gW hK
      go_wp2_with fail
      go_roundw
      case rel => exact ⟨k + 1, v', by omega, by go_num, F2⟩
      case measure => simp [intOf]; omega
    · obtain rfl : k = l.length := by omega
      have F8 := HF.out
      rw [List.take_length] at F8
      clear HF
      have lR := load_rreg F8.blk
      have b1 := HB1.out wr F8.frm
      obtain ⟨a3, c3, rfl, _, _⟩ := Row.slice F8.own
      go_wp2_with (first
        | ((with_reducible refine wpl_load rfl _ rfl ?_ lR ?_); (focus rfl))
        | ((with_reducible refine wpl_store_blk rfl 47 _ _ rfl (N + 1) (rgc f (.slice a3 l.length c3)) rz ?_ ?_ b1 rfl ?_ ?_ ?_); (focus rfl); (focus rfl); (focus (show _ = some 9; kernel_rfl)); (focus (simp [Value.oneCell'])); intro w5 e5 g5 z5; have h2 := rcellsT e5; have c9 := e5.cell 8 rfl))
      refine bodyPost_ret (v := rg f (.slice a3 l.length c3)) (by simp [results, Try.results20, go_sem, h2, c9]) rfl ?_
      have hlo := fun g e => (F8.out g e).1
      exact ⟨_, rfl, F8.own.keep g5 (fun g e h => by have h : g = N + 1 := h; have := hlo g e; have := HN1.out; omega), (g0.trans F8.frm).next g5 (fun k hk h => by have h : k = N + 1 := h; have := HN.out; omega), fun g e => by have := hlo g e; have := HN.out; have := HN1.out; omega⟩
end Go.Proofs.Ytojbgckabifnjaa

