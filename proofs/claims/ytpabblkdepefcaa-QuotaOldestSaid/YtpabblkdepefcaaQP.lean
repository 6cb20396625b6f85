/- What the statements on quotas do with items: they are numbered. Of at most a hundred items. -/
import Derived.Test.YtpabblkdepefcaaQK
namespace Go.Proofs.Ytpabblkdepefcaa
open Go.RowKit Go.Shelf
theorem Frm.cellQ {w w' : World} {a : Addr} {v : Value} (hf : Frm (fun _ => False) w w') (h : w.cell? a = some v) : w'.cell? a = some v :=
  (World.cell?_of_block (hf.block a.block (World.block_lt_of_cell? w a h) (fun h => h))).trans h
/-- Rising numbers as IDs, ticks that do not fall. -/
def NumQ (L : List QI) : Prop := (∀ i (h : i < L.length), L[i].id = i + 1) ∧ ∀ i j (hi : i < L.length) (hj : j < L.length), i < j → L[i].tick ≤ L[j].tick
theorem NumQ.snoc {L : List QI} {y : QI} (h : NumQ L) (hi : y.id = L.length + 1) (ht : ∀ x ∈ L, x.tick ≤ y.tick) : NumQ (L ++ [y]) := by
  refine ⟨fun i hi2 => ?_, fun i j hi2 hj2 hij => ?_⟩
  · rw [List.length_append, List.length_singleton] at hi2
    by_cases h1 : i < L.length
    · rw [List.getElem_append_left h1]; exact h.1 i h1
    · obtain rfl : i = L.length := by omega
      rw [List.getElem_append_right (Nat.le_refl _)]; simpa using hi
  · rw [List.length_append, List.length_singleton] at hj2
    have h1 : i < L.length := by omega
    rw [List.getElem_append_left h1]
    by_cases h2 : j < L.length
    · rw [List.getElem_append_left h2]; exact h.2 i j h1 h2 hij
    · obtain rfl : j = L.length := by omega
      rw [List.getElem_append_right (Nat.le_refl _)]
      simpa using ht _ (List.getElem_mem h1)
theorem wpTail.appendQ {ops : Array Oper} {Q : Exit → Act → World → Prop} {r m : Nat} {a : Act} {W : World} {o : Oper} {d : Tmp} {x y : Operand} {l ms : List QI} {v u : Value} (hi : ops[r]? = some o) (hg : o.guard = none) (hd : o.dst = some d)
    (ho : o.op = .call ⟨.builtin .append, #[x, y], #[22, 22]⟩) (ht : o.type = 22) (hx : a.eval x = v) (hy : a.eval y = u) (h : QOwn W v l) (hs : QL W u ms) (hb : l.length + ms.length ≤ 1000000)
    (hK : ∀ v' W', QOwn W' v' (l ++ ms) → W.grownBy W' v.ownBlock → (∀ g, v'.ownBlock = some g → v.ownBlock = some g ∨ W.heap.size ≤ g) → wpTail Try.prog ops Q (r + 1) m (a.put (some d) v') W') : wpTail Try.prog ops Q r (m + 1) a W := by
  obtain ⟨v', W', hrun, h1, h2, h3⟩ := append_qis W v u l ms h hs hb
  refine wpTail.cons hi hg fun K hK' => ?_
  refine Lib.wp_append_run W x y _ _ ho v u hx hy v' W' (by rw [ht]; exact hrun) ?_
  rw [hd]
  exact hK' _ _ (hK v' W' h1 h2 h3)
def qp7M : List Nat := [1, 2, 4, 14, 30, 62, 64, 192, 448, 512, 1024, 2048, 7168, 15360, 31744, 65534, 131070, 196606, 327678]
def qp7R (u : Value) (g off n cap t k : Nat) (x : QI) : List ((Nat → Value) → World → Prop) := [
  fun val _ => val 0 = u,
  fun val _ => val 1 = .slice (some ⟨g, off, none⟩) n cap,
  fun val _ => val 2 = .int .i64 (k : Int),
  fun val _ => val 3 = .pointer (some ⟨g, off + k * 4, none⟩),
  fun val _ => val 4 = .pointer (some ⟨g, off + k * 4, none⟩),
  fun val _ => val 5 = .string (bs x.path),
  fun val _ => val 6 = .int .i64 (k : Int),
  fun val _ => val 7 = .int .i64 ((k : Int) + 1),
  fun val _ => val 8 = .int .u32 ((k : Int) + 1),
  fun val _ => val 9 = .int .u32 (t : Int),
  fun val _ => val 10 = .slice (some ⟨g, off, none⟩) n cap,
  fun val _ => val 11 = .int .i64 (k : Int),
  fun val _ => val 12 = .pointer (some ⟨g, off + k * 4, none⟩),
  fun val _ => val 13 = .pointer (some ⟨g, off + k * 4 + 3, none⟩),
  fun val _ => val 14 = .int .i64 x.size,
  fun val _ => val 15 = .agg #[.string (bs x.path), .int .u32 ((k : Int) + 1), .int .u32 (t : Int), .int .i64 x.size]]

set_option maxRecDepth 100000 in
set_option maxHeartbeats 8000000 in
theorem numbered_any (v : Value) (l : List QI) (w : World) (h : QL w v l) (hb : l.length ≤ 100) : Calls Try.prog 15 #[v] w fun e w' => ∃ u L, e = .returned u ∧ QOwn w' u L ∧ NumQ L ∧ L.length = l.length ∧ Frm (fun _ => False) w w' := by
  obtain ⟨a, cap, rfl, hc1, hc2⟩ := h.slice
  unfold maxLen at hc2
  have HL := Lib.hid h
  clear h
  go_enter Try.func15, Try.ntmps15
  go_wp2_with fail
  go_loopw [3, 4, 5] (fun u tv i wr => ∃ (k t : Nat) (L : List QI) (u0 : Value), u0 = u ∧ k ≤ l.length ∧ i = .int .i64 k ∧ tv = .int .u32 t ∧ t ≤ 2 * k ∧ QOwn wr u L ∧ L.length = k ∧ Hid (NumQ L ∧ ∀ x ∈ L, x.tick ≤ t) ∧ Frm (fun _ => False) w wr ∧ ∀ g, u.ownBlock = some g → w.heap.size ≤ g) (fun _ _ i _ => l.length - (intOf i).toNat)
  case atStart => exact ⟨0, 0, [], _, rfl, Nat.zero_le _, rfl, rfl, by omega, Row.nil_ _ _, rfl, ⟨⟨fun i h => by simp at h, fun i j h => by simp at h⟩, fun x h => by cases h⟩, Frm.refl _ _, fun g h => by cases h⟩
  case round =>
    obtain ⟨k, t, L, u, hu, hk, rfl, rfl, ht2, ho, hLk, HN, g1, hn⟩ := hrel
    subst hu
    by_cases hlt : k < l.length
    · have hki : (k : Int) < (l.length : Int) := by omega
      have hk0 : (0 : Int) ≤ (k : Int) := by omega
      have hq := HL.out.keepF g1
      obtain ⟨g, off, rfl, _, e0, _, e2, e3⟩ := hq.elem k hlt
      obtain ⟨x, hx⟩ : ∃ x, l[k] = x := ⟨_, rfl⟩
      rw [hx] at e0 e2 e3
      clear hx hq
      obtain ⟨t', ht'⟩ : ∃ t', t + x.tick % 3 = t' := ⟨_, rfl⟩
      have hw1 : IntKind.u32.wrap ((t : Int) + (x.tick : Int) % 3) = (t' : Int) := by
        rw [← ht']
        have : (t : Int) + (x.tick : Int) % 3 = ((t + x.tick % 3 : Nat) : Int) := by omega
        rw [this]
        exact IntWalk.u32_in _ (by omega)
      have hw2 : IntKind.u32.wrap ((k : Int) + 1) = (k : Int) + 1 := by
        have : (k : Int) + 1 = ((k + 1 : Nat) : Int) := by omega
        rw [this]
        exact IntWalk.u32_in _ (by omega)
      have hw3 : IntKind.i64.wrap ((k : Int) + 1) = (k : Int) + 1 := by rw [IntKind.wrap_i64]; omega
      have ht3 : t' ≤ 1000 := by omega
      have HT := Lib.hid ht'
      have HE := Lib.hid fun (W : World) (gg : Frm (fun _ => False) wr W) => And.intro (gg.cellQ e0) (gg.cellQ e3)
      have K := Lib.hid (And.intro ho (And.intro g1 hn))
      clear ho g1 hn ht' e3 e0
      go_upto_region 7 with fail
      rename_i K2 hK2
      have D : Frm (fun _ => False) wr wr.drew := (Frm.refl _ _).drew
      refine wp_region_late 16 3 [0] [[], [], [], [1, 2], [3], [4], [], [6], [7], [], [], [], [10, 11], [12], [13], [5, 8, 9, 14]] qp7M (qp7R u g off l.length cap t' k x) (by kernel_rfl) rfl rfl rfl (by kernel_rfl) (by kernel_rfl) (by kernel_rfl) (by kernel_rfl) rfl (by kernel_rfl) (by kernel_rfl) (by kernel_rfl) (by kernel_rfl) (fun val => ?_) ?_
      · try simp only [Act.put, List.setIfInBounds_toArray, List.set_cons_zero, List.set_cons_succ]
        refine RelO.next (k' := 1) rfl (fun W gW hF => ?_) ?_
        focus
          refine OpOK.val (u := u) (by rfl) ?_ (fun W' _ => rfl)
          try simp only [tupAt]
          first | (go_simp; done) | (go_simp; with_reducible rfl) | (go_simp; rfl)
        try simp only [Act.put, List.setIfInBounds_toArray, List.set_cons_zero, List.set_cons_succ]
        refine RelO.next (k' := 2) rfl (fun W gW hF => ?_) ?_
        focus
          refine OpOK.val (u := .slice (some ⟨g, off, none⟩) l.length cap) (by rfl) ?_ (fun W' _ => rfl)
          try simp only [tupAt]
          first | (go_simp; done) | (go_simp; with_reducible rfl) | (go_simp; rfl)
        try simp only [Act.put, List.setIfInBounds_toArray, List.set_cons_zero, List.set_cons_succ]
        refine RelO.next (k' := 3) rfl (fun W gW hF => ?_) ?_
        focus
          refine OpOK.val (u := .int .i64 (k : Int)) (by rfl) ?_ (fun W' _ => rfl)
          try simp only [tupAt]
          first | (go_simp; done) | (go_simp; with_reducible rfl) | (go_simp; rfl)
        try simp only [Act.put, List.setIfInBounds_toArray, List.set_cons_zero, List.set_cons_succ]
        refine RelO.next (k' := 4) rfl (fun W gW hF => ?_) ?_
        focus
          obtain ⟨h1, h2, _⟩ := hF
          have e1 : val 1 = .slice (some ⟨g, off, none⟩) l.length cap := h1 _ (Frm.refl _ W)
          have e2 : val 2 = .int .i64 (k : Int) := h2 _ (Frm.refl _ W)
          try simp only [e2]
          try simp only [e1]
          try simp only [tupAt]
          refine OpOK.val (u := .pointer (some ⟨g, off + k * 4, none⟩)) (by rfl) ?_ (fun W' _ => rfl)
          try simp only [e2]
          try simp only [e1]
          try simp only [tupAt]
          first | (go_simp; done) | (go_simp; with_reducible rfl) | (go_simp; rfl)
        try simp only [Act.put, List.setIfInBounds_toArray, List.set_cons_zero, List.set_cons_succ]
        refine RelO.next (k' := 5) rfl (fun W gW hF => ?_) ?_
        focus
          obtain ⟨h3, _⟩ := hF
          have e3 : val 3 = .pointer (some ⟨g, off + k * 4, none⟩) := h3 _ (Frm.refl _ W)
          try simp only [e3]
          try simp only [tupAt]
          refine OpOK.val (u := .pointer (some ⟨g, off + k * 4, none⟩)) (by rfl) ?_ (fun W' _ => rfl)
          try simp only [e3]
          try simp only [tupAt]
          first | (go_simp; done) | (go_simp; with_reducible rfl) | (go_simp; rfl)
        try simp only [Act.put, List.setIfInBounds_toArray, List.set_cons_zero, List.set_cons_succ]
        refine RelO.next (k' := 6) rfl (fun W gW hF => ?_) ?_
        focus
          obtain ⟨h4, _⟩ := hF
          have e4 : val 4 = .pointer (some ⟨g, off + k * 4, none⟩) := h4 _ (Frm.refl _ W)
          try simp only [e4]
          try simp only [tupAt]
          have c0 := (HE.out W (D.trans gW)).1
          exact OpOK.val (u := .string (bs x.path)) (by rfl) (by first | (go_simp; done) | (go_simp; with_reducible rfl) | (go_simp; rfl)) (fun W' _ => rfl)
        try simp only [Act.put, List.setIfInBounds_toArray, List.set_cons_zero, List.set_cons_succ]
        refine RelO.next (k' := 7) rfl (fun W gW hF => ?_) ?_
        focus
          refine OpOK.val (u := .int .i64 (k : Int)) (by rfl) ?_ (fun W' _ => rfl)
          try simp only [tupAt]
          first | (go_simp; done) | (go_simp; with_reducible rfl) | (go_simp; rfl)
        try simp only [Act.put, List.setIfInBounds_toArray, List.set_cons_zero, List.set_cons_succ]
        refine RelO.next (k' := 8) rfl (fun W gW hF => ?_) ?_
        focus
          obtain ⟨h6, _⟩ := hF
          have e6 : val 6 = .int .i64 (k : Int) := h6 _ (Frm.refl _ W)
          try simp only [e6]
          try simp only [tupAt]
          refine OpOK.val (u := .int .i64 ((k : Int) + 1)) (by rfl) ?_ (fun W' _ => rfl)
          try simp only [e6]
          try simp only [tupAt]
          first | (go_simp; done) | (go_simp; with_reducible rfl) | (go_simp; rfl)
        try simp only [Act.put, List.setIfInBounds_toArray, List.set_cons_zero, List.set_cons_succ]
        refine RelO.next (k' := 9) rfl (fun W gW hF => ?_) ?_
        focus
          obtain ⟨h7, _⟩ := hF
          have e7 : val 7 = .int .i64 ((k : Int) + 1) := h7 _ (Frm.refl _ W)
          try simp only [e7]
          try simp only [tupAt]
          refine OpOK.val (u := .int .u32 ((k : Int) + 1)) (by rfl) ?_ (fun W' _ => rfl)
          try simp only [e7]
          try simp only [tupAt]
          first | (go_simp; done) | (go_simp; with_reducible rfl) | (go_simp; rfl)
        try simp only [Act.put, List.setIfInBounds_toArray, List.set_cons_zero, List.set_cons_succ]
        refine RelO.next (k' := 10) rfl (fun W gW hF => ?_) ?_
        focus
          refine OpOK.val (u := .int .u32 (t' : Int)) (by rfl) ?_ (fun W' _ => rfl)
          try simp only [tupAt]
          first | (go_simp; done) | (go_simp; with_reducible rfl) | (go_simp; rfl)
        try simp only [Act.put, List.setIfInBounds_toArray, List.set_cons_zero, List.set_cons_succ]
        refine RelO.next (k' := 11) rfl (fun W gW hF => ?_) ?_
        focus
          refine OpOK.val (u := .slice (some ⟨g, off, none⟩) l.length cap) (by rfl) ?_ (fun W' _ => rfl)
          try simp only [tupAt]
          first | (go_simp; done) | (go_simp; with_reducible rfl) | (go_simp; rfl)
        try simp only [Act.put, List.setIfInBounds_toArray, List.set_cons_zero, List.set_cons_succ]
        refine RelO.next (k' := 12) rfl (fun W gW hF => ?_) ?_
        focus
          refine OpOK.val (u := .int .i64 (k : Int)) (by rfl) ?_ (fun W' _ => rfl)
          try simp only [tupAt]
          first | (go_simp; done) | (go_simp; with_reducible rfl) | (go_simp; rfl)
        try simp only [Act.put, List.setIfInBounds_toArray, List.set_cons_zero, List.set_cons_succ]
        refine RelO.next (k' := 13) rfl (fun W gW hF => ?_) ?_
        focus
          obtain ⟨h10, h11, _⟩ := hF
          have e10 : val 10 = .slice (some ⟨g, off, none⟩) l.length cap := h10 _ (Frm.refl _ W)
          have e11 : val 11 = .int .i64 (k : Int) := h11 _ (Frm.refl _ W)
          try simp only [e11]
          try simp only [e10]
          try simp only [tupAt]
          refine OpOK.val (u := .pointer (some ⟨g, off + k * 4, none⟩)) (by rfl) ?_ (fun W' _ => rfl)
          try simp only [e11]
          try simp only [e10]
          try simp only [tupAt]
          first | (go_simp; done) | (go_simp; with_reducible rfl) | (go_simp; rfl)
        try simp only [Act.put, List.setIfInBounds_toArray, List.set_cons_zero, List.set_cons_succ]
        refine RelO.next (k' := 14) rfl (fun W gW hF => ?_) ?_
        focus
          obtain ⟨h12, _⟩ := hF
          have e12 : val 12 = .pointer (some ⟨g, off + k * 4, none⟩) := h12 _ (Frm.refl _ W)
          try simp only [e12]
          try simp only [tupAt]
          refine OpOK.val (u := .pointer (some ⟨g, off + k * 4 + 3, none⟩)) (by rfl) ?_ (fun W' _ => rfl)
          try simp only [e12]
          try simp only [tupAt]
          first | (go_simp; done) | (go_simp; with_reducible rfl) | (go_simp; rfl)
        try simp only [Act.put, List.setIfInBounds_toArray, List.set_cons_zero, List.set_cons_succ]
        refine RelO.next (k' := 15) rfl (fun W gW hF => ?_) ?_
        focus
          obtain ⟨h13, _⟩ := hF
          have e13 : val 13 = .pointer (some ⟨g, off + k * 4 + 3, none⟩) := h13 _ (Frm.refl _ W)
          try simp only [e13]
          try simp only [tupAt]
          have c3 := (HE.out W (D.trans gW)).2
          exact OpOK.val (u := .int .i64 x.size) (by rfl) (by first | (go_simp; done) | (go_simp; with_reducible rfl) | (go_simp; rfl)) (fun W' _ => rfl)
        try simp only [Act.put, List.setIfInBounds_toArray, List.set_cons_zero, List.set_cons_succ]
        refine RelO.next (k' := 16) rfl (fun W gW hF => ?_) ?_
        focus
          obtain ⟨h5, h8, h9, h14, _⟩ := hF
          have e5 : val 5 = .string (bs x.path) := h5 _ (Frm.refl _ W)
          have e8 : val 8 = .int .u32 ((k : Int) + 1) := h8 _ (Frm.refl _ W)
          have e9 : val 9 = .int .u32 (t' : Int) := h9 _ (Frm.refl _ W)
          have e14 : val 14 = .int .i64 x.size := h14 _ (Frm.refl _ W)
          try simp only [e14]
          try simp only [e9]
          try simp only [e8]
          try simp only [e5]
          try simp only [tupAt]
          refine OpOK.call (by rfl) ?_ ((item_any (bs x.path) ((k : Int) + 1) (t' : Int) x.size W).mono ?_)
          · first | (go_simp; done) | (go_simp; with_reducible rfl) | (go_simp; rfl)
          · rintro e W1 ⟨rfl, g1⟩
            exact ⟨_, rfl, g1, fun W2 _ => rfl⟩
        try simp only [Act.put, List.setIfInBounds_toArray, List.set_cons_zero, List.set_cons_succ]
        exact RelO.nil
      intro val w5 gW hF
      obtain ⟨h0, h1, h2, h3, h4, h5, h6, h7, h8, h9, h10, h11, h12, h13, h14, h15, hT⟩ := hF
      have e0 : val 0 = u := h0 _ (Frm.refl _ w5)
      have e1 : val 1 = .slice (some ⟨g, off, none⟩) l.length cap := h1 _ (Frm.refl _ w5)
      have e2 : val 2 = .int .i64 (k : Int) := h2 _ (Frm.refl _ w5)
      have e3 : val 3 = .pointer (some ⟨g, off + k * 4, none⟩) := h3 _ (Frm.refl _ w5)
      have e4 : val 4 = .pointer (some ⟨g, off + k * 4, none⟩) := h4 _ (Frm.refl _ w5)
      have e5 : val 5 = .string (bs x.path) := h5 _ (Frm.refl _ w5)
      have e6 : val 6 = .int .i64 (k : Int) := h6 _ (Frm.refl _ w5)
      have e7 : val 7 = .int .i64 ((k : Int) + 1) := h7 _ (Frm.refl _ w5)
      have e8 : val 8 = .int .u32 ((k : Int) + 1) := h8 _ (Frm.refl _ w5)
      have e9 : val 9 = .int .u32 (t' : Int) := h9 _ (Frm.refl _ w5)
      have e10 : val 10 = .slice (some ⟨g, off, none⟩) l.length cap := h10 _ (Frm.refl _ w5)
      have e11 : val 11 = .int .i64 (k : Int) := h11 _ (Frm.refl _ w5)
      have e12 : val 12 = .pointer (some ⟨g, off + k * 4, none⟩) := h12 _ (Frm.refl _ w5)
      have e13 : val 13 = .pointer (some ⟨g, off + k * 4 + 3, none⟩) := h13 _ (Frm.refl _ w5)
      have e14 : val 14 = .int .i64 x.size := h14 _ (Frm.refl _ w5)
      have e15 : val 15 = .agg #[.string (bs x.path), .int .u32 ((k : Int) + 1), .int .u32 (t' : Int), .int .i64 x.size] := h15 _ (Frm.refl _ w5)
      clear hT h0 h1 h2 h3 h4 h5 h6 h7 h8 h9 h10 h11 h12 h13 h14 h15
      simp only [aO, Act.put, List.setIfInBounds_toArray, List.set_cons_zero, List.set_cons_succ, Nat.reduceAdd]
      try simp only [e15]
      try simp only [e14]
      try simp only [e13]
      try simp only [e12]
      try simp only [e11]
      try simp only [e10]
      try simp only [e9]
      try simp only [e8]
      try simp only [e7]
      try simp only [e6]
      try simp only [e5]
      try simp only [e4]
      try simp only [e3]
      try simp only [e2]
      try simp only [e1]
      try simp only [e0]
      try simp only [tupAt]
      have gD := D.trans gW
      clear gW D
      obtain ⟨y, hy1, hy2, hy3, hy4⟩ : ∃ y : QI, y.path = x.path ∧ y.id = k + 1 ∧ y.tick = t' ∧ y.size = x.size := ⟨⟨x.path, k + 1, t', x.size, x.hp, by omega, by omega, x.hs⟩, rfl, rfl, rfl, rfl⟩
      have hcs : (#[Value.string (bs x.path), Value.int .u32 ((k : Int) + 1), Value.int .u32 (t' : Int), Value.int .i64 x.size] : Array Value) = qiv y := by
        show _ = #[Value.string (bs y.path), Value.int .u32 (y.id : Int), Value.int .u32 (y.tick : Int), Value.int .i64 y.size]
        rw [hy1, hy2, hy3, hy4]; rfl
      have g6 := (Frm.refl (fun _ => False) w5).alloc (.cells (qiv y) 36)
      have q6 := QL.one w5 36 y
      have o6 := K.out.1.keep (gD.trans g6) (fun _ _ h => h)
      refine wpTail.cons rfl rfl (fun K hK => ?_)
      unfold Oper.wp execOp
      go_simp
      refine hK _ _ ?_
      clear hK K
      try simp only [Act.put, List.setIfInBounds_toArray, List.set_cons_zero, List.set_cons_succ]
      refine wpTail.appendQ rfl rfl rfl rfl rfl rfl rfl o6 q6 (by rw [hLk]; simp; omega) fun v7 w7 o7 gr7 n7 => ?_
      try simp only [Act.put, List.setIfInBounds_toArray, List.set_cons_zero, List.set_cons_succ]
      refine wpTail.assign rfl rfl rfl rfl rfl ?_
      try simp only [Act.put, List.setIfInBounds_toArray, List.set_cons_zero, List.set_cons_succ]
      refine wpTail.doneN ?_
      have E := Lib.hid (And.intro o7 (And.intro (((K.out.2.1.trans gD).trans g6).grown gr7 (fun q hq e => by have := K.out.2.2 q e; omega)) (fun g e => (n7 g e).elim (K.out.2.2 g) (fun e => by have := g6.size; have := gD.size; have := K.out.2.1.size; omega))))
      have Y := Lib.hid (And.intro hy1 (And.intro hy2 (And.intro hy3 hy4)))
      clear o7 gr7 n7 o6 q6 g6 hcs hy1 hy2 hy3 hy4
      refine hK2 _ _ ?_
      clear hK2
      go_wp2_with fail
      go_roundw
      case rel =>
        refine ⟨k + 1, t', L ++ [y], _, rfl, hlt, by go_num, rfl, by have := HT.out; omega, E.out.1, by rw [List.length_append, hLk]; rfl, ⟨NumQ.snoc HN.out.1 (by rw [Y.out.2.1, hLk]) (fun z hz => by have := HN.out.2 z hz; have := Y.out.2.2.1; have := HT.out; omega), fun z hz => ?_⟩, E.out.2.1, E.out.2.2⟩
        rcases List.mem_append.1 hz with h | h
        · have := HN.out.2 z h; have := HT.out; omega
        · rw [List.mem_singleton.1 h, Y.out.2.2.1]; exact Nat.le_refl _
      case measure => simp [intOf]; omega
    · obtain rfl : k = l.length := by omega
      have K := Lib.hid (And.intro ho (And.intro g1 hn))
      clear ho g1 hn
      go_wp2_with fail
      go_ret
      exact ⟨_, L, rfl, K.out.1, HN.out.1, hLk, K.out.2.1⟩
end Go.Proofs.Ytpabblkdepefcaa
