/- The document's own Dots, put, Lost, Same: of any registers. No condition but that the numbers have their bits. -/
import Derived.Test.YtojbgckabifnjaaSwJ0
import Derived.Test.YtojbgckabifnjaaRing
namespace Go.Proofs.Ytojbgckabifnjaa
open Go.RowKit

def pu2aM : List Nat := [1, 2, 6, 15, 31, 63, 95, 255, 511, 1023, 1055, 3103, 8191, 16383]
def pu2aR (g off n cap k N : Nat) (x s : SibI) (q : Bool) : List ((Nat → Value) → World → Prop) := [
  fun val _ => val 0 = .int .i64 (k : Int),
  fun val _ => val 1 = .slice (some ⟨g, off, none⟩) n cap,
  fun val _ => val 2 = .int .i64 (n : Int),
  fun val _ => val 3 = .bool true,
  fun val _ => val 4 = .bool true,
  fun val _ => val 5 = .slice (some ⟨g, off, none⟩) n cap,
  fun val _ => val 6 = .int .i64 (k : Int),
  fun val _ => val 7 = .pointer (some ⟨g, off + k * 3, none⟩),
  fun val _ => val 8 = .pointer (some ⟨g, off + k * 3, none⟩),
  fun val _ => val 9 = .agg (dv x.r x.n),
  fun val _ => val 10 = .pointer (some ⟨N, 0, none⟩),
  fun val _ => val 11 = .agg (dv s.r s.n),
  fun val _ => val 12 = .bool q,
  fun val _ => val 13 = .bool q]
def pu2bM : List Nat := [1, 2, 6, 15, 31, 63, 95, 255, 511, 1023, 1055, 3103, 8191, 16383]
def pu2bR (a : Option Addr) (n cap : Nat) : List ((Nat → Value) → World → Prop) := [
  fun val _ => val 0 = .int .i64 (n : Int),
  fun val _ => val 1 = .slice a n cap,
  fun val _ => val 2 = .int .i64 (n : Int),
  fun val _ => val 3 = .bool false,
  fun val _ => val 4 = .bool false,
  fun val _ => val 5 = undef,
  fun val _ => val 6 = undef,
  fun val _ => val 7 = undef,
  fun val _ => val 8 = undef,
  fun val _ => val 9 = undef,
  fun val _ => val 10 = undef,
  fun val _ => val 11 = undef,
  fun val _ => val 12 = undef,
  fun val _ => val 13 = .bool false]

set_option maxRecDepth 100000 in
set_option maxHeartbeats 4000000 in
theorem rput_any (v : Value) (l : List SibI) (s : SibI) (w : World) (h : SL w v l) (hb : l.length ≤ 1000) :
    Calls Try.prog 69 #[v, .agg #[.int .u8 s.r, .int .u32 s.n, .string (bs s.s)]] w (NewL (putL l s) w) := by
  have HV := Lib.hid h
  obtain ⟨a, cap, rfl, h1, h2⟩ := h.slice
  unfold maxLen at h2
  have g0 : Frm (fun _ => False) w (w.alloc (.cells #[.int .u8 s.r, .int .u32 s.n, .string (bs s.s)] 105)) := (Frm.refl _ w).alloc _
  have b0 := Blk.alloc w 105 #[.int .u8 s.r, .int .u32 s.n, .string (bs s.s)]
  have hs := h.keepF g0
  go_enter Try.func69, Try.ntmps69
  go_upto_region 1 with fail
  generalize w.alloc (.cells #[.int .u8 s.r, .int .u32 s.n, .string (bs s.s)] 105) = w1 at *
  obtain ⟨N, hN⟩ : ∃ N, w.heap.size = N := ⟨_, rfl⟩
  have HN := Lib.hid hN
  have hN1 := b0.lt
  rw [hN] at b0 hN1 ⊢
  have HS0 := Lib.hid b0
  clear hN b0
  go_wp2_with fail
  go_loopw [5] (fun i wr => ∃ k : Nat, k ≤ l.length ∧ i = .int .i64 k ∧ (∀ j (h : j < l.length), j < k → ltB l[j] s = true) ∧ Frm (fun _ => False) w1 wr) (fun i _ => l.length - (intOf i).toNat)
  case atStart => exact ⟨0, Nat.zero_le _, rfl, fun j _ h => absurd h (by omega), Frm.refl _ _⟩
  case round =>
    obtain ⟨k, hk, rfl, hbef, f1⟩ := hrel
    have HBF := Lib.hid hbef
    clear hbef
    have hcase : (k < l.length ∧ ∃ h : k < l.length, ltB l[k] s = true) ∨ (∀ h : k < l.length, ltB l[k] s = false) := by
      by_cases hlt : k < l.length
      · cases hq : ltB l[k] s with
        | true => exact .inl ⟨hlt, hlt, hq⟩
        | false => exact .inr fun _ => hq
      · exact .inr fun h => absurd h hlt
    -- behind the loop
    have hEND : ∀ (a' : Act) (wq : World), True := fun _ _ => trivial
    clear hEND
    by_cases hlt : k < l.length
    · obtain ⟨g, off, rfl, _, _, _⟩ := hs.cells k hlt
      have HX : Hid (∀ W, Frm (fun _ => False) wr W → W.cell? ⟨g, off + k * 3, none⟩ = some (.int .u8 l[k].r) ∧ W.cell? ⟨g, off + k * 3 + 1, none⟩ = some (.int .u32 l[k].n) ∧ W.cell? ⟨g, off + k * 3 + 2, none⟩ = some (.string (bs l[k].s))) := Lib.hid fun W gW => by
        obtain ⟨g2, off2, e, x0, x1, x2⟩ := (hs.keepF (f1.trans gW)).cells k hlt
        cases e
        exact ⟨x0, x1, x2⟩
      have HS : Hid (∀ W, Frm (fun _ => False) wr W → Blk W N 105 #[.int .u8 s.r, .int .u32 s.n, .string (bs s.s)]) := Lib.hid fun W gW => HS0.out.keep (f1.trans gW) (fun h => h)
      obtain ⟨q, hq⟩ : ∃ q, ltB l[k] s = q := ⟨_, rfl⟩
      have HQ0 := Lib.hid hq
      obtain ⟨x, hx⟩ : ∃ x, l[k] = x := ⟨_, rfl⟩
      have HX1 := Lib.hid hx
      rw [hx] at HX hq
      have HQ : Hid (decide (x.n < s.n ∨ x.n = s.n ∧ x.r < s.r) = q) := Lib.hid hq
      have hki : (k : Int) < (l.length : Int) := by omega
      have hk0 : (0 : Int) ≤ (k : Int) := by omega
      clear hq hx hcase
      go_upto_region 2 with fail
      rename_i hK
      have D : Frm (fun _ => False) wr wr.drew := (Frm.refl _ _).drew
      refine wp_region_late 14 0 [] [[], [], [1], [0, 2], [3], [4], [4], [4, 5, 6], [4, 7], [4, 8], [4], [4, 10], [4, 9, 11], [4, 12]] pu2aM (pu2aR g off l.length cap k N x s q) (by kernel_rfl) rfl rfl rfl (by kernel_rfl) (by kernel_rfl) (by kernel_rfl) (by kernel_rfl) rfl (by kernel_rfl) (by kernel_rfl) (by kernel_rfl) (by kernel_rfl) (fun val => ?_) ?_
      · try dsimp only
        refine RelO.next (k' := 1) rfl (fun W gW hF => ?_) ?_
        focus
          refine OpOK.val (u := .int .i64 (k : Int)) (by rfl) ?_ (fun W' _ => rfl)
          try simp only [tupAt]
          first | (go_simp; done) | (go_simp; with_reducible rfl) | (go_simp; rfl)
        try simp only [Act.put, List.setIfInBounds_toArray, List.set_cons_zero, List.set_cons_succ]
        refine RelO.next (k' := 2) rfl (fun W gW hF => ?_) ?_
        focus
          refine OpOK.val (u := .slice (some ⟨g, off, none⟩) l.length cap) (by rfl) ?_ (fun W' _ => rfl)
          try simp only [tupAt]
          first | (go_simp; done) | (go_simp; with_reducible rfl) | (go_simp; rfl)
        try simp only [Act.put, List.setIfInBounds_toArray, List.set_cons_zero, List.set_cons_succ]
        refine RelO.next (k' := 3) rfl (fun W gW hF => ?_) ?_
        focus
          obtain ⟨h1, _⟩ := hF
          have e1 : val 1 = .slice (some ⟨g, off, none⟩) l.length cap := h1 _ (Frm.refl _ W)
          try simp only [e1]
          try simp only [tupAt]
          refine OpOK.val (u := .int .i64 (l.length : Int)) (by rfl) ?_ (fun W' _ => rfl)
          try simp only [e1]
          try simp only [tupAt]
          first | (go_simp; done) | (go_simp; with_reducible rfl) | (go_simp; rfl)
        try simp only [Act.put, List.setIfInBounds_toArray, List.set_cons_zero, List.set_cons_succ]
        refine RelO.next (k' := 4) rfl (fun W gW hF => ?_) ?_
        focus
          obtain ⟨h0, h2, _⟩ := hF
          have e0 : val 0 = .int .i64 (k : Int) := h0 _ (Frm.refl _ W)
          have e2 : val 2 = .int .i64 (l.length : Int) := h2 _ (Frm.refl _ W)
          try simp only [e2]
          try simp only [e0]
          try simp only [tupAt]
          refine OpOK.val (u := .bool true) (by rfl) ?_ (fun W' _ => rfl)
          try simp only [e2]
          try simp only [e0]
          try simp only [tupAt]
          first | (go_simp; done) | (go_simp; with_reducible rfl) | (go_simp; rfl)
        try simp only [Act.put, List.setIfInBounds_toArray, List.set_cons_zero, List.set_cons_succ]
        refine RelO.next (k' := 5) rfl (fun W gW hF => ?_) ?_
        focus
          obtain ⟨h3, _⟩ := hF
          have e3 : val 3 = .bool true := h3 _ (Frm.refl _ W)
          try simp only [e3]
          try simp only [tupAt]
          refine OpOK.val (u := .bool true) (by rfl) ?_ (fun W' _ => rfl)
          try simp only [e3]
          try simp only [tupAt]
          first | (go_simp; done) | (go_simp; with_reducible rfl) | (go_simp; rfl)
        try simp only [Act.put, List.setIfInBounds_toArray, List.set_cons_zero, List.set_cons_succ]
        refine RelO.next (k' := 6) rfl (fun W gW hF => ?_) ?_
        focus
          obtain ⟨h4, _⟩ := hF
          have e4 : val 4 = .bool true := h4 _ (Frm.refl _ W)
          try simp only [e4]
          try simp only [tupAt]
          refine OpOK.val (u := .slice (some ⟨g, off, none⟩) l.length cap) (by rfl) ?_ (fun W' _ => rfl)
          try simp only [e4]
          try simp only [tupAt]
          first | (go_simp; done) | (go_simp; with_reducible rfl) | (go_simp; rfl)
        try simp only [Act.put, List.setIfInBounds_toArray, List.set_cons_zero, List.set_cons_succ]
        refine RelO.next (k' := 7) rfl (fun W gW hF => ?_) ?_
        focus
          obtain ⟨h4, _⟩ := hF
          have e4 : val 4 = .bool true := h4 _ (Frm.refl _ W)
          try simp only [e4]
          try simp only [tupAt]
          refine OpOK.val (u := .int .i64 (k : Int)) (by rfl) ?_ (fun W' _ => rfl)
          try simp only [e4]
          try simp only [tupAt]
          first | (go_simp; done) | (go_simp; with_reducible rfl) | (go_simp; rfl)
        try simp only [Act.put, List.setIfInBounds_toArray, List.set_cons_zero, List.set_cons_succ]
        refine RelO.next (k' := 8) rfl (fun W gW hF => ?_) ?_
        focus
          obtain ⟨h4, h5, h6, _⟩ := hF
          have e4 : val 4 = .bool true := h4 _ (Frm.refl _ W)
          have e5 : val 5 = .slice (some ⟨g, off, none⟩) l.length cap := h5 _ (Frm.refl _ W)
          have e6 : val 6 = .int .i64 (k : Int) := h6 _ (Frm.refl _ W)
          try simp only [e6]
          try simp only [e5]
          try simp only [e4]
          try simp only [tupAt]
          refine OpOK.val (u := .pointer (some ⟨g, off + k * 3, none⟩)) (by rfl) ?_ (fun W' _ => rfl)
          try simp only [e6]
          try simp only [e5]
          try simp only [e4]
          try simp only [tupAt]
          first | (go_simp; done) | (go_simp; with_reducible rfl) | (go_simp; rfl)
        try simp only [Act.put, List.setIfInBounds_toArray, List.set_cons_zero, List.set_cons_succ]
        refine RelO.next (k' := 9) rfl (fun W gW hF => ?_) ?_
        focus
          obtain ⟨h4, h7, _⟩ := hF
          have e4 : val 4 = .bool true := h4 _ (Frm.refl _ W)
          have e7 : val 7 = .pointer (some ⟨g, off + k * 3, none⟩) := h7 _ (Frm.refl _ W)
          try simp only [e7]
          try simp only [e4]
          try simp only [tupAt]
          refine OpOK.val (u := .pointer (some ⟨g, off + k * 3, none⟩)) (by rfl) ?_ (fun W' _ => rfl)
          try simp only [e7]
          try simp only [e4]
          try simp only [tupAt]
          first | (go_simp; done) | (go_simp; with_reducible rfl) | (go_simp; rfl)
        try simp only [Act.put, List.setIfInBounds_toArray, List.set_cons_zero, List.set_cons_succ]
        refine RelO.next (k' := 10) rfl (fun W gW hF => ?_) ?_
        focus
          obtain ⟨h4, h8, _⟩ := hF
          have e4 : val 4 = .bool true := h4 _ (Frm.refl _ W)
          have e8 : val 8 = .pointer (some ⟨g, off + k * 3, none⟩) := h8 _ (Frm.refl _ W)
          try simp only [e8]
          try simp only [e4]
          try simp only [tupAt]
          obtain ⟨x0, x1, x2⟩ := HX.out W (D.trans gW)
          exact OpOK.val (u := .agg (dv x.r x.n)) (by rfl) (by first | (go_simp; done) | (go_simp; with_reducible rfl) | (go_simp; rfl)) (fun W' _ => rfl)
        try simp only [Act.put, List.setIfInBounds_toArray, List.set_cons_zero, List.set_cons_succ]
        refine RelO.next (k' := 11) rfl (fun W gW hF => ?_) ?_
        focus
          obtain ⟨h4, _⟩ := hF
          have e4 : val 4 = .bool true := h4 _ (Frm.refl _ W)
          try simp only [e4]
          try simp only [tupAt]
          refine OpOK.val (u := .pointer (some ⟨N, 0, none⟩)) (by rfl) ?_ (fun W' _ => rfl)
          try simp only [e4]
          try simp only [tupAt]
          first | (go_simp; done) | (go_simp; with_reducible rfl) | (go_simp; rfl)
        try simp only [Act.put, List.setIfInBounds_toArray, List.set_cons_zero, List.set_cons_succ]
        refine RelO.next (k' := 12) rfl (fun W gW hF => ?_) ?_
        focus
          obtain ⟨h4, h10, _⟩ := hF
          have e4 : val 4 = .bool true := h4 _ (Frm.refl _ W)
          have e10 : val 10 = .pointer (some ⟨N, 0, none⟩) := h10 _ (Frm.refl _ W)
          try simp only [e10]
          try simp only [e4]
          try simp only [tupAt]
          have y0 := (HS.out W (D.trans gW)).cell 0 rfl
          have y1 := (HS.out W (D.trans gW)).cell 1 rfl
          exact OpOK.val (u := .agg (dv s.r s.n)) (by rfl) (by first | (go_simp; done) | (go_simp; with_reducible rfl) | (go_simp; rfl)) (fun W' _ => rfl)
        try simp only [Act.put, List.setIfInBounds_toArray, List.set_cons_zero, List.set_cons_succ]
        refine RelO.next (k' := 13) rfl (fun W gW hF => ?_) ?_
        focus
          obtain ⟨h4, h9, h11, _⟩ := hF
          have e4 : val 4 = .bool true := h4 _ (Frm.refl _ W)
          have e9 : val 9 = .agg (dv x.r x.n) := h9 _ (Frm.refl _ W)
          have e11 : val 11 = .agg (dv s.r s.n) := h11 _ (Frm.refl _ W)
          try simp only [e11]
          try simp only [e9]
          try simp only [e4]
          try simp only [tupAt]
          refine OpOK.call (by rfl) ?_ ((rless_any x.r x.n s.r s.n W).mono ?_)
          · first | (go_simp; done) | (go_simp; with_reducible rfl) | (go_simp; rfl)
          · rintro e W1 ⟨he, g1⟩
            rw [HQ.out] at he
            subst he
            exact ⟨_, rfl, g1, fun W2 _ => rfl⟩
        try simp only [Act.put, List.setIfInBounds_toArray, List.set_cons_zero, List.set_cons_succ]
        refine RelO.next (k' := 14) rfl (fun W gW hF => ?_) ?_
        focus
          obtain ⟨h4, h12, _⟩ := hF
          have e4 : val 4 = .bool true := h4 _ (Frm.refl _ W)
          have e12 : val 12 = .bool q := h12 _ (Frm.refl _ W)
          try simp only [e12]
          try simp only [e4]
          try simp only [tupAt]
          refine OpOK.val (u := .bool q) (by rfl) ?_ (fun W' _ => rfl)
          try simp only [e12]
          try simp only [e4]
          try simp only [tupAt]
          first | (go_simp; done) | (go_simp; with_reducible rfl) | (go_simp; rfl)
        try simp only [Act.put, List.setIfInBounds_toArray, List.set_cons_zero, List.set_cons_succ]
        exact RelO.nil
      intro val W gW hF
      obtain ⟨h0, h1, h2, h3, h4, h5, h6, h7, h8, h9, h10, h11, h12, h13, _⟩ := hF
      have e0 : val 0 = .int .i64 (k : Int) := h0 _ (Frm.refl _ W)
      have e1 : val 1 = .slice (some ⟨g, off, none⟩) l.length cap := h1 _ (Frm.refl _ W)
      have e2 : val 2 = .int .i64 (l.length : Int) := h2 _ (Frm.refl _ W)
      have e3 : val 3 = .bool true := h3 _ (Frm.refl _ W)
      have e4 : val 4 = .bool true := h4 _ (Frm.refl _ W)
      have e5 : val 5 = .slice (some ⟨g, off, none⟩) l.length cap := h5 _ (Frm.refl _ W)
      have e6 : val 6 = .int .i64 (k : Int) := h6 _ (Frm.refl _ W)
      have e7 : val 7 = .pointer (some ⟨g, off + k * 3, none⟩) := h7 _ (Frm.refl _ W)
      have e8 : val 8 = .pointer (some ⟨g, off + k * 3, none⟩) := h8 _ (Frm.refl _ W)
      have e9 : val 9 = .agg (dv x.r x.n) := h9 _ (Frm.refl _ W)
      have e10 : val 10 = .pointer (some ⟨N, 0, none⟩) := h10 _ (Frm.refl _ W)
      have e11 : val 11 = .agg (dv s.r s.n) := h11 _ (Frm.refl _ W)
      have e12 : val 12 = .bool q := h12 _ (Frm.refl _ W)
      have e13 : val 13 = .bool q := h13 _ (Frm.refl _ W)
      clear h0 h1 h2 h3 h4 h5 h6 h7 h8 h9 h10 h11 h12 h13
      simp only [aO, Act.put, List.setIfInBounds_toArray, List.set_cons_zero, List.set_cons_succ, Nat.reduceAdd]
      try simp only [e13]
      try simp only [e12]
      try simp only [e11]
      try simp only [e10]
      try simp only [e9]
      try simp only [e8]
      try simp only [e7]
      try simp only [e6]
      try simp only [e5]
      try simp only [e4]
      try simp only [e3]
      try simp only [e2]
      try simp only [e1]
      try simp only [e0]
      try simp only [tupAt]
      refine wpTail.doneN ?_
      refine hK _ _ ?_
      have gD := D.trans gW
      clear gW D hK e0 e1 e2 e3 e4 e5 e6 e7 e8 e9 e10 e11 e12 e13
      cases q with
      | true =>
        go_wp2_with fail
        go_roundw
        case rel =>
          refine ⟨k + 1, by omega, by go_num, fun j hj hjk => ?_, f1.trans gD⟩
          by_cases e : j = k
          · subst e; exact HQ0.out
          · exact HBF.out j hj (by omega)
        case measure => simp [intOf]; omega
      | false =>
        have HPUT := Lib.hid (putL_at s l k (by omega) HBF.out (fun _ => HQ0.out))
        have fE := f1.trans gD
        have hs2 := hs.keepF fE
        have S1 : SL W (.slice (some ⟨g, off, none⟩) k cap) (l.take k) := by
          unfold SL
          rw [List.length_take, Nat.min_eq_left (by omega), ← flat_take sibc sibc_len]
          exact Sl.take hs2 k cap (by omega) (by omega) (Nat.le_refl _)
        have HD : Hid (SL W (.slice (if cap = k then (some ⟨g, off, none⟩) else Option.map (fun x : Addr => x.add (k * 3)) (some ⟨g, off, none⟩)) (l.length - k) (cap - k)) (l.drop k)) := Lib.hid (by
          have e := Sl.drop hs2 k (by omega)
          rw [flat_drop sibc sibc_len] at e
          unfold SL
          rw [List.length_drop]
          exact e)
        obtain ⟨v1, w3, r1, o1, gr1, nb1⟩ := append_rsibs W (.slice none 0 0) (.slice (some ⟨g, off, none⟩) k cap) [] (l.take k) (OwnL.nil_ _) S1 (by rw [List.length_take]; simp; omega)
        rw [List.nil_append] at o1
        have f3 : Frm (fun _ => False) W w3 := (Frm.refl _ W).grown gr1 (fun k _ e => by cases e)
        have n1 : ∀ g, v1.ownBlock = some g → W.heap.size ≤ g := fun g e => (nb1 g e).elim (fun e => by cases e) (fun e => e)
        have hb3 := HS0.out.keep (fE.trans f3) (fun h => h)
        have y0 := hb3.cell 0 rfl
        have y1 := hb3.cell 1 rfl
        have y2 := hb3.cell 2 rfl
        have f4 := (Frm.refl (fun _ => False) w3).alloc (.cells #[.int .u8 s.r, .int .u32 s.n, .string (bs s.s)] 105)
        obtain ⟨v2, w5, r2, o2, gr2, nb2⟩ := append_rsibs _ _ _ _ [s] (o1.keep f4 (fun _ _ h => h)) (Sl.one w3 105 s) (by rw [List.length_take]; simp; omega)
        have f5 : Frm (fun k => v1.ownBlock = some k) w3 w5 := (f4.mono (fun _ _ h => h.elim)).grown gr2 (fun k _ e => e)
        have k5 : Frm (fun _ => False) W w5 := f3.next f5 (fun k hk e => by have := n1 k e; omega)
        have n2 : ∀ g, v2.ownBlock = some g → W.heap.size ≤ g := fun g e => (nb2 g e).elim (fun e => n1 g e) (fun e => by have := f3.size; simp at e; omega)
        obtain ⟨v3, w6, r3, o3, gr3, nb3⟩ := append_rsibs w5 v2 _ _ _ o2 (HD.out.keepF k5) (by rw [List.length_append, List.length_take, List.length_drop]; simp; omega)
        have n3 : ∀ g, v3.ownBlock = some g → W.heap.size ≤ g := fun g e => (nb3 g e).elim (fun e => n2 g e) (fun e => by have := k5.size; omega)
        have k6 : Frm (fun _ => False) W w6 := k5.grown gr3 (fun k hk e => by have := n2 k e; omega)
        have e3 : l.take k ++ [s] ++ l.drop k = putL l s := by rw [HPUT.out]; simp
        rw [e3] at o3
        obtain ⟨a1, c1, rfl, _, _⟩ := Row.slice o1
        obtain ⟨a5, c5, rfl, _, _⟩ := Row.slice o2
        obtain ⟨a6, c6, rfl, _, _⟩ := Row.slice o3
        have R1 := Lib.hid r1
        have R2 := Lib.hid r2
        have R3 := Lib.hid r3
        have HO3 := Lib.hid (And.intro o3 (And.intro n3 k6))
        have HFE := Lib.hid fE
        clear r1 r2 r3 o1 o2 o3 gr1 gr2 gr3 nb1 nb2 nb3 n1 n2 n3 k5 k6 f3 f4 f5 hb3 S1 hs2 e3 fE
        have hk0 : (0 : Int) ≤ (k : Int) := by omega
        have hkl : (k : Int) ≤ (l.length : Int) := by omega
        have hkc : (k : Int) ≤ (cap : Int) := by omega
        generalize (l.take k).length = z1 at *
        generalize (l.take k ++ [s]).length = z2 at *
        generalize (putL l s).length = z3 at *
        go_upto_region 6 with (first
          | ((with_reducible refine wpl_first rfl _ _ rfl (some ⟨g, off, none⟩) l.length cap k ?_ ?_ (by omega) ?_); (focus rfl); (focus rfl))
          | (at_builtin; refine Lib.wpList_append_run _ rfl _ _ _ _ rfl _ _ rfl rfl _ _ R1.out ?_))
        go_upto_region 7 with (at_builtin; refine Lib.wpList_append_run _ rfl _ _ _ _ rfl _ _ rfl rfl _ _ R2.out ?_)
        go_wp2_with (first
          | ((with_reducible refine wpl_behind rfl _ _ rfl (some ⟨g, off, none⟩) l.length cap k ?_ ?_ (by omega) ?_); (focus rfl); (focus rfl))
          | (at_builtin; refine Lib.wpList_append_run _ rfl _ _ _ _ rfl _ _ rfl rfl _ _ R3.out ?_))
        all_goals
          go_ret
          obtain ⟨q1, q2, q3⟩ := HO3.out
          exact ⟨_, rfl, q1, (g0.trans HFE.out).trans q3, fun g e => by have := q2 g e; have := (g0.trans HFE.out).size; omega⟩
    · obtain rfl : k = l.length := by omega
      have HPUT := Lib.hid (putL_at s l l.length (Nat.le_refl _) (fun j h _ => HBF.out j h h) (fun h => absurd h (by omega)))
      have hnot : ¬ ((l.length : Int) < (l.length : Int)) := by omega
      clear hnot hcase hlt
      go_upto_region 2 with fail
      rename_i hK
      have D : Frm (fun _ => False) wr wr.drew := (Frm.refl _ _).drew
      refine wp_region_late 14 0 [] [[], [], [1], [0, 2], [3], [4], [4], [4, 5, 6], [4, 7], [4, 8], [4], [4, 10], [4, 9, 11], [4, 12]] pu2bM (pu2bR a l.length cap) (by kernel_rfl) rfl rfl rfl (by kernel_rfl) (by kernel_rfl) (by kernel_rfl) (by kernel_rfl) rfl (by kernel_rfl) (by kernel_rfl) (by kernel_rfl) (by kernel_rfl) (fun val => ?_) ?_
      · try dsimp only
        refine RelO.next (k' := 1) rfl (fun W gW hF => ?_) ?_
        focus
          refine OpOK.val (u := .int .i64 (l.length : Int)) (by rfl) ?_ (fun W' _ => rfl)
          try simp only [tupAt]
          first | (go_simp; done) | (go_simp; with_reducible rfl) | (go_simp; rfl)
        try simp only [Act.put, List.setIfInBounds_toArray, List.set_cons_zero, List.set_cons_succ]
        refine RelO.next (k' := 2) rfl (fun W gW hF => ?_) ?_
        focus
          refine OpOK.val (u := .slice a l.length cap) (by rfl) ?_ (fun W' _ => rfl)
          try simp only [tupAt]
          first | (go_simp; done) | (go_simp; with_reducible rfl) | (go_simp; rfl)
        try simp only [Act.put, List.setIfInBounds_toArray, List.set_cons_zero, List.set_cons_succ]
        refine RelO.next (k' := 3) rfl (fun W gW hF => ?_) ?_
        focus
          obtain ⟨h1, _⟩ := hF
          have e1 : val 1 = .slice a l.length cap := h1 _ (Frm.refl _ W)
          try simp only [e1]
          try simp only [tupAt]
          refine OpOK.val (u := .int .i64 (l.length : Int)) (by rfl) ?_ (fun W' _ => rfl)
          try simp only [e1]
          try simp only [tupAt]
          first | (go_simp; done) | (go_simp; with_reducible rfl) | (go_simp; rfl)
        try simp only [Act.put, List.setIfInBounds_toArray, List.set_cons_zero, List.set_cons_succ]
        refine RelO.next (k' := 4) rfl (fun W gW hF => ?_) ?_
        focus
          obtain ⟨h0, h2, _⟩ := hF
          have e0 : val 0 = .int .i64 (l.length : Int) := h0 _ (Frm.refl _ W)
          have e2 : val 2 = .int .i64 (l.length : Int) := h2 _ (Frm.refl _ W)
          try simp only [e2]
          try simp only [e0]
          try simp only [tupAt]
          refine OpOK.val (u := .bool false) (by rfl) ?_ (fun W' _ => rfl)
          try simp only [e2]
          try simp only [e0]
          try simp only [tupAt]
          first | (go_simp; done) | (go_simp; with_reducible rfl) | (go_simp; rfl)
        try simp only [Act.put, List.setIfInBounds_toArray, List.set_cons_zero, List.set_cons_succ]
        refine RelO.next (k' := 5) rfl (fun W gW hF => ?_) ?_
        focus
          obtain ⟨h3, _⟩ := hF
          have e3 : val 3 = .bool false := h3 _ (Frm.refl _ W)
          try simp only [e3]
          try simp only [tupAt]
          refine OpOK.val (u := .bool false) (by rfl) ?_ (fun W' _ => rfl)
          try simp only [e3]
          try simp only [tupAt]
          first | (go_simp; done) | (go_simp; with_reducible rfl) | (go_simp; rfl)
        try simp only [Act.put, List.setIfInBounds_toArray, List.set_cons_zero, List.set_cons_succ]
        refine RelO.next (k' := 6) rfl (fun W gW hF => ?_) ?_
        focus
          obtain ⟨h4, _⟩ := hF
          have e4 : val 4 = .bool false := h4 _ (Frm.refl _ W)
          try simp only [e4]
          try simp only [tupAt]
          exact OpOK.skip (by rfl) (fun W' _ => rfl)
        try simp only [Act.put, List.setIfInBounds_toArray, List.set_cons_zero, List.set_cons_succ]
        refine RelO.next (k' := 7) rfl (fun W gW hF => ?_) ?_
        focus
          obtain ⟨h4, _⟩ := hF
          have e4 : val 4 = .bool false := h4 _ (Frm.refl _ W)
          try simp only [e4]
          try simp only [tupAt]
          exact OpOK.skip (by rfl) (fun W' _ => rfl)
        try simp only [Act.put, List.setIfInBounds_toArray, List.set_cons_zero, List.set_cons_succ]
        refine RelO.next (k' := 8) rfl (fun W gW hF => ?_) ?_
        focus
          obtain ⟨h4, h5, h6, _⟩ := hF
          have e4 : val 4 = .bool false := h4 _ (Frm.refl _ W)
          have e5 : val 5 = undef := h5 _ (Frm.refl _ W)
          have e6 : val 6 = undef := h6 _ (Frm.refl _ W)
          try simp only [e6]
          try simp only [e5]
          try simp only [e4]
          try simp only [tupAt]
          exact OpOK.skip (by rfl) (fun W' _ => rfl)
        try simp only [Act.put, List.setIfInBounds_toArray, List.set_cons_zero, List.set_cons_succ]
        refine RelO.next (k' := 9) rfl (fun W gW hF => ?_) ?_
        focus
          obtain ⟨h4, h7, _⟩ := hF
          have e4 : val 4 = .bool false := h4 _ (Frm.refl _ W)
          have e7 : val 7 = undef := h7 _ (Frm.refl _ W)
          try simp only [e7]
          try simp only [e4]
          try simp only [tupAt]
          exact OpOK.skip (by rfl) (fun W' _ => rfl)
        try simp only [Act.put, List.setIfInBounds_toArray, List.set_cons_zero, List.set_cons_succ]
        refine RelO.next (k' := 10) rfl (fun W gW hF => ?_) ?_
        focus
          obtain ⟨h4, h8, _⟩ := hF
          have e4 : val 4 = .bool false := h4 _ (Frm.refl _ W)
          have e8 : val 8 = undef := h8 _ (Frm.refl _ W)
          try simp only [e8]
          try simp only [e4]
          try simp only [tupAt]
          exact OpOK.skip (by rfl) (fun W' _ => rfl)
        try simp only [Act.put, List.setIfInBounds_toArray, List.set_cons_zero, List.set_cons_succ]
        refine RelO.next (k' := 11) rfl (fun W gW hF => ?_) ?_
        focus
          obtain ⟨h4, _⟩ := hF
          have e4 : val 4 = .bool false := h4 _ (Frm.refl _ W)
          try simp only [e4]
          try simp only [tupAt]
          exact OpOK.skip (by rfl) (fun W' _ => rfl)
        try simp only [Act.put, List.setIfInBounds_toArray, List.set_cons_zero, List.set_cons_succ]
        refine RelO.next (k' := 12) rfl (fun W gW hF => ?_) ?_
        focus
          obtain ⟨h4, h10, _⟩ := hF
          have e4 : val 4 = .bool false := h4 _ (Frm.refl _ W)
          have e10 : val 10 = undef := h10 _ (Frm.refl _ W)
          try simp only [e10]
          try simp only [e4]
          try simp only [tupAt]
          exact OpOK.skip (by rfl) (fun W' _ => rfl)
        try simp only [Act.put, List.setIfInBounds_toArray, List.set_cons_zero, List.set_cons_succ]
        refine RelO.next (k' := 13) rfl (fun W gW hF => ?_) ?_
        focus
          obtain ⟨h4, h9, h11, _⟩ := hF
          have e4 : val 4 = .bool false := h4 _ (Frm.refl _ W)
          have e9 : val 9 = undef := h9 _ (Frm.refl _ W)
          have e11 : val 11 = undef := h11 _ (Frm.refl _ W)
          try simp only [e11]
          try simp only [e9]
          try simp only [e4]
          try simp only [tupAt]
          exact OpOK.skip (by rfl) (fun W' _ => rfl)
        try simp only [Act.put, List.setIfInBounds_toArray, List.set_cons_zero, List.set_cons_succ]
        refine RelO.next (k' := 14) rfl (fun W gW hF => ?_) ?_
        focus
          obtain ⟨h4, h12, _⟩ := hF
          have e4 : val 4 = .bool false := h4 _ (Frm.refl _ W)
          have e12 : val 12 = undef := h12 _ (Frm.refl _ W)
          try simp only [e12]
          try simp only [e4]
          try simp only [tupAt]
          refine OpOK.val (u := .bool false) (by rfl) ?_ (fun W' _ => rfl)
          try simp only [e12]
          try simp only [e4]
          try simp only [tupAt]
          first | (go_simp; done) | (go_simp; with_reducible rfl) | (go_simp; rfl)
        try simp only [Act.put, List.setIfInBounds_toArray, List.set_cons_zero, List.set_cons_succ]
        exact RelO.nil
      intro val W gW hF
      obtain ⟨h0, h1, h2, h3, h4, h5, h6, h7, h8, h9, h10, h11, h12, h13, _⟩ := hF
      have e0 : val 0 = .int .i64 (l.length : Int) := h0 _ (Frm.refl _ W)
      have e1 : val 1 = .slice a l.length cap := h1 _ (Frm.refl _ W)
      have e2 : val 2 = .int .i64 (l.length : Int) := h2 _ (Frm.refl _ W)
      have e3 : val 3 = .bool false := h3 _ (Frm.refl _ W)
      have e4 : val 4 = .bool false := h4 _ (Frm.refl _ W)
      have e5 : val 5 = undef := h5 _ (Frm.refl _ W)
      have e6 : val 6 = undef := h6 _ (Frm.refl _ W)
      have e7 : val 7 = undef := h7 _ (Frm.refl _ W)
      have e8 : val 8 = undef := h8 _ (Frm.refl _ W)
      have e9 : val 9 = undef := h9 _ (Frm.refl _ W)
      have e10 : val 10 = undef := h10 _ (Frm.refl _ W)
      have e11 : val 11 = undef := h11 _ (Frm.refl _ W)
      have e12 : val 12 = undef := h12 _ (Frm.refl _ W)
      have e13 : val 13 = .bool false := h13 _ (Frm.refl _ W)
      clear h0 h1 h2 h3 h4 h5 h6 h7 h8 h9 h10 h11 h12 h13
      simp only [aO, Act.put, List.setIfInBounds_toArray, List.set_cons_zero, List.set_cons_succ, Nat.reduceAdd]
      try simp only [e13]
      try simp only [e12]
      try simp only [e11]
      try simp only [e10]
      try simp only [e9]
      try simp only [e8]
      try simp only [e7]
      try simp only [e6]
      try simp only [e5]
      try simp only [e4]
      try simp only [e3]
      try simp only [e2]
      try simp only [e1]
      try simp only [e0]
      try simp only [tupAt]
      refine wpTail.doneN ?_
      refine hK _ _ ?_
      have gD := D.trans gW
      clear gW D hK e0 e1 e2 e3 e4 e5 e6 e7 e8 e9 e10 e11 e12 e13
      have fE := f1.trans gD
      have hs2 := hs.keepF fE
      have S1 : SL W (.slice a l.length cap) (l.take l.length) := by
        unfold SL
        rw [List.length_take, Nat.min_eq_left (by omega), ← flat_take sibc sibc_len]
        exact Sl.take hs2 l.length cap (by omega) (by omega) (Nat.le_refl _)
      have HD : Hid (SL W (.slice (if cap = l.length then a else Option.map (fun x : Addr => x.add (l.length * 3)) a) (l.length - l.length) (cap - l.length)) (l.drop l.length)) := Lib.hid (by
        have e := Sl.drop hs2 l.length (by omega)
        rw [flat_drop sibc sibc_len] at e
        unfold SL
        rw [List.length_drop]
        exact e)
      obtain ⟨v1, w3, r1, o1, gr1, nb1⟩ := append_rsibs W (.slice none 0 0) (.slice a l.length cap) [] (l.take l.length) (OwnL.nil_ _) S1 (by rw [List.length_take]; simp; omega)
      rw [List.nil_append] at o1
      have f3 : Frm (fun _ => False) W w3 := (Frm.refl _ W).grown gr1 (fun k _ e => by cases e)
      have n1 : ∀ g, v1.ownBlock = some g → W.heap.size ≤ g := fun g e => (nb1 g e).elim (fun e => by cases e) (fun e => e)
      have hb3 := HS0.out.keep (fE.trans f3) (fun h => h)
      have y0 := hb3.cell 0 rfl
      have y1 := hb3.cell 1 rfl
      have y2 := hb3.cell 2 rfl
      have f4 := (Frm.refl (fun _ => False) w3).alloc (.cells #[.int .u8 s.r, .int .u32 s.n, .string (bs s.s)] 105)
      obtain ⟨v2, w5, r2, o2, gr2, nb2⟩ := append_rsibs _ _ _ _ [s] (o1.keep f4 (fun _ _ h => h)) (Sl.one w3 105 s) (by rw [List.length_take]; simp; omega)
      have f5 : Frm (fun k => v1.ownBlock = some k) w3 w5 := (f4.mono (fun _ _ h => h.elim)).grown gr2 (fun k _ e => e)
      have k5 : Frm (fun _ => False) W w5 := f3.next f5 (fun k hk e => by have := n1 k e; omega)
      have n2 : ∀ g, v2.ownBlock = some g → W.heap.size ≤ g := fun g e => (nb2 g e).elim (fun e => n1 g e) (fun e => by have := f3.size; simp at e; omega)
      obtain ⟨v3, w6, r3, o3, gr3, nb3⟩ := append_rsibs w5 v2 _ _ _ o2 (HD.out.keepF k5) (by rw [List.length_append, List.length_take, List.length_drop]; simp; omega)
      have n3 : ∀ g, v3.ownBlock = some g → W.heap.size ≤ g := fun g e => (nb3 g e).elim (fun e => n2 g e) (fun e => by have := k5.size; omega)
      have k6 : Frm (fun _ => False) W w6 := k5.grown gr3 (fun k hk e => by have := n2 k e; omega)
      have e3 : l.take l.length ++ [s] ++ l.drop l.length = putL l s := by rw [HPUT.out]; simp
      rw [e3] at o3
      obtain ⟨a1, c1, rfl, _, _⟩ := Row.slice o1
      obtain ⟨a5, c5, rfl, _, _⟩ := Row.slice o2
      obtain ⟨a6, c6, rfl, _, _⟩ := Row.slice o3
      have R1 := Lib.hid r1
      have R2 := Lib.hid r2
      have R3 := Lib.hid r3
      have HO3 := Lib.hid (And.intro o3 (And.intro n3 k6))
      have HFE := Lib.hid fE
      clear r1 r2 r3 o1 o2 o3 gr1 gr2 gr3 nb1 nb2 nb3 n1 n2 n3 k5 k6 f3 f4 f5 hb3 S1 hs2 e3 fE
      have hk0 : (0 : Int) ≤ (l.length : Int) := by omega
      have hkl : (l.length : Int) ≤ (l.length : Int) := by omega
      have hkc : (l.length : Int) ≤ (cap : Int) := by omega
      generalize (l.take l.length).length = z1 at *
      generalize (l.take l.length ++ [s]).length = z2 at *
      generalize (putL l s).length = z3 at *
      go_upto_region 6 with (first
        | ((with_reducible refine wpl_first rfl _ _ rfl a l.length cap l.length ?_ ?_ (by omega) ?_); (focus rfl); (focus rfl))
        | (at_builtin; refine Lib.wpList_append_run _ rfl _ _ _ _ rfl _ _ rfl rfl _ _ R1.out ?_))
      go_upto_region 7 with (at_builtin; refine Lib.wpList_append_run _ rfl _ _ _ _ rfl _ _ rfl rfl _ _ R2.out ?_)
      go_wp2_with (first
        | ((with_reducible refine wpl_behind rfl _ _ rfl a l.length cap l.length ?_ ?_ (by omega) ?_); (focus rfl); (focus rfl))
        | (at_builtin; refine Lib.wpList_append_run _ rfl _ _ _ _ rfl _ _ rfl rfl _ _ R3.out ?_))
      all_goals
        go_ret
        obtain ⟨q1, q2, q3⟩ := HO3.out
        exact ⟨_, rfl, q1, (g0.trans HFE.out).trans q3, fun g e => by have := q2 g e; have := (g0.trans HFE.out).size; omega⟩

end Go.Proofs.Ytojbgckabifnjaa

