/- The document's own Dots, put, Lost, Same: of any registers. No condition but that the numbers have their bits. -/
import Derived.Test.YtmdmkcofafhlcaaSwJ0
import Derived.Test.YtmdmkcofafhlcaaSwI
namespace Go.Proofs.Ytmdmkcofafhlcaa
open Go.RowKit

set_option maxRecDepth 100000 in
set_option maxHeartbeats 2000000 in
theorem rdots_any (f : Nat → Nat) (v : Value) (l : List SibI) (w : World) (h : SL w v l) (hb : l.length ≤ 1000) :
    Calls Try.prog 68 #[rg f v] w fun e w' => ∃ v', e = .returned v' ∧ OwnD w' v' (l.map SibI.d) ∧ Frm (fun _ => False) w w' := by
  obtain ⟨a, cap, rfl, h1, h2⟩ := h.slice
  unfold maxLen at h2
  have g0 : Frm (fun _ => False) w (w.alloc (.cells (rgc f (.slice a l.length cap)) 47)) := (Frm.refl _ w).alloc _
  have b0 := Blk.alloc w 47 (rgc f (.slice a l.length cap))
  have hs := h.keepF g0
  go_enter Try.func68, Try.ntmps68
  go_upto_region 1 with fail
  generalize w.alloc (.cells (rgc f (.slice a l.length cap)) 47) = w1 at *
  obtain ⟨N, hN⟩ : ∃ N, w.heap.size = N := ⟨_, rfl⟩
  rw [hN] at b0 ⊢
  clear hN
  go_wp2_with fail
  go_loopw [3, 4] (fun u i wr => ∃ k : Nat, k ≤ l.length ∧ i = .int .i64 k ∧ OwnD wr u ((l.map SibI.d).take k) ∧ (∀ g, u.ownBlock = some g → w1.heap.size ≤ g) ∧ Frm (fun _ => False) w1 wr) (fun _ i _ => l.length - (intOf i).toNat)
  case atStart => exact ⟨0, Nat.zero_le _, rfl, by rw [List.take_zero]; exact OwnD.nil_ _, (fun _ e => by cases e), Frm.refl _ _⟩
  case round =>
    obtain ⟨k, hk, rfl, hO, hN, hF⟩ := hrel
    have c8 := (b0.keep hF (fun h => h)).cell 8 rfl
    by_cases hlt : k < l.length
    · obtain ⟨g, off, rfl, x0, x1, x2⟩ := (hs.keepF hF).cells k hlt
      obtain ⟨a2, c2, rfl, _, _⟩ := Row.slice hO
      have hki : (k : Int) < (l.length : Int) := by omega
      have hk0 : (0 : Int) ≤ (k : Int) := by omega
      have f1 := (Frm.refl (fun _ => False) wr).alloc (.cells #[.int .u8 l[k].r, .int .u32 l[k].n] 48)
      have hone : DL (wr.alloc (.cells #[.int .u8 l[k].r, .int .u32 l[k].n] 48)) (.slice (some ⟨wr.heap.size, 0, none⟩) 1 1) [l[k].d] := Sl.built dotc dotc_len wr 48 l[k].d #[.int .u8 l[k].r, .int .u32 l[k].n] rfl
      obtain ⟨v', w3, hrun, hown, hgr, hnew⟩ := append_rdots _ _ _ _ [l[k].d] (hO.keep f1 (fun _ _ h => h)) hone (by rw [List.length_take, List.length_map]; simp; omega)
      have hkm : k < (l.map SibI.d).length := by rw [List.length_map]; exact hlt
      rw [show l[k].d = (l.map SibI.d)[k] from by simp, ← List.take_succ_eq_append_getElem hkm] at hown
      have HT := Lib.hid (show ∀ g, v'.ownBlock = some g → w1.heap.size ≤ g from fun g e => (hnew g e).elim (fun e => hN g e) (fun e => by have := hF.size; simp at e; omega))
      have HF := Lib.hid (show Frm (fun _ => False) w1 w3 from (hF.trans f1).grown hgr (fun k hk e => by have := hN k e; omega))
      have HO := Lib.hid hown
      have Hrun := Lib.hid hrun
      clear hrun hown hgr hnew hO hN hone
      go_wp2_with (at_builtin; refine Lib.wpList_append_run _ rfl _ _ _ _ rfl _ _ rfl rfl _ _ Hrun.out ?_)
      go_roundw
      case rel => exact ⟨k + 1, by omega, by go_num, HO.out, HT.out, HF.out⟩
      case measure => simp [intOf]; omega
    · obtain rfl : k = l.length := by omega
      rw [List.take_of_length_le (by rw [List.length_map]; omega)] at hO
      obtain ⟨a2, c2, rfl, _, _⟩ := Row.slice hO
      go_wp2_with fail
      go_ret
      exact ⟨_, rfl, hO, g0.trans hF⟩

def pu2aM : List Nat := [1, 2, 6, 15, 31, 63, 95, 255, 511, 1023, 1055, 3103, 8191, 16383]
def pu2aR (g off n cap k N : Nat) (x s : SibI) (q : Bool) : List ((Nat → Value) → World → Prop) := [
  fun val _ => val 0 = .int .i64 (k : Int),
  fun val _ => val 1 = .slice (some ⟨g, off, none⟩) n cap,
  fun val _ => val 2 = .int .i64 (n : Int),
  fun val _ => val 3 = .bool true,
  fun val _ => val 4 = .bool true,
  fun val _ => val 5 = .slice (some ⟨g, off, none⟩) n cap,
  fun val _ => val 6 = .int .i64 (k : Int),
  fun val _ => val 7 = .pointer (some ⟨g, off + k * 3, none⟩),
  fun val _ => val 8 = .pointer (some ⟨g, off + k * 3, none⟩),
  fun val _ => val 9 = .agg (dv x.r x.n),
  fun val _ => val 10 = .pointer (some ⟨N, 0, none⟩),
  fun val _ => val 11 = .agg (dv s.r s.n),
  fun val _ => val 12 = .bool q,
  fun val _ => val 13 = .bool q]
def pu2bM : List Nat := [1, 2, 6, 15, 31, 63, 95, 255, 511, 1023, 1055, 3103, 8191, 16383]
def pu2bR (a : Option Addr) (n cap : Nat) : List ((Nat → Value) → World → Prop) := [
  fun val _ => val 0 = .int .i64 (n : Int),
  fun val _ => val 1 = .slice a n cap,
  fun val _ => val 2 = .int .i64 (n : Int),
  fun val _ => val 3 = .bool false,
  fun val _ => val 4 = .bool false,
  fun val _ => val 5 = undef,
  fun val _ => val 6 = undef,
  fun val _ => val 7 = undef,
  fun val _ => val 8 = undef,
  fun val _ => val 9 = undef,
  fun val _ => val 10 = undef,
  fun val _ => val 11 = undef,
  fun val _ => val 12 = undef,
  fun val _ => val 13 = .bool false]

set_option maxRecDepth 100000 in
set_option maxHeartbeats 4000000 in
theorem rput_any (v : Value) (l : List SibI) (s : SibI) (w : World) (h : SL w v l) (hb : l.length ≤ 1000) :
    Calls Try.prog 69 #[v, .agg #[.int .u8 s.r, .int .u32 s.n, .string (bs s.s)]] w (NewL (putL l s) w) := by
  have HV := Lib.hid h
  obtain ⟨a, cap, rfl, h1, h2⟩ := h.slice
  unfold maxLen at h2
  have g0 : Frm (fun _ => False) w (w.alloc (.cells #[.int .u8 s.r, .int .u32 s.n, .string (bs s.s)] 105)) := (Frm.refl _ w).alloc _
  have b0 := Blk.alloc w 105 #[.int .u8 s.r, .int .u32 s.n, .string (bs s.s)]
  have hs := h.keepF g0
  go_enter Try.func69, Try.ntmps69
  go_upto_region 1 with fail
  generalize w.alloc (.cells #[.int .u8 s.r, .int .u32 s.n, .string (bs s.s)] 105) = w1 at *
  obtain ⟨N, hN⟩ : ∃ N, w.heap.size = N := ⟨_, rfl⟩
  have HN := Lib.hid hN
  have hN1 := b0.lt
  rw [hN] at b0 hN1 ⊢
  have HS0 := Lib.hid b0
  clear hN b0
  go_wp2_with fail
  go_loopw [5] (fun i wr => ∃ k : Nat, k ≤ l.length ∧ i = .int .i64 k ∧ (∀ j (h : j < l.length), j < k → ltB l[j] s = true) ∧ Frm (fun _ => False) w1 wr) (fun i _ => l.length - (intOf i).toNat)
  case atStart => exact ⟨0, Nat.zero_le _, rfl, fun j _ h => absurd h (by omega), Frm.refl _ _⟩
  case round =>
    obtain ⟨k, hk, rfl, hbef, f1⟩ := hrel
    have HBF := Lib.hid hbef
    clear hbef
    have hcase : (k < l.length ∧ ∃ h : k < l.length, ltB l[k] s = true) ∨ (∀ h : k < l.length, ltB l[k] s = false) := by
      by_cases hlt : k < l.length
      · cases hq : ltB l[k] s with
        | true => exact .inl ⟨hlt, hlt, hq⟩
        | false => exact .inr fun _ => hq
      · exact .inr fun h => absurd h hlt
    -- behind the loop
    have hEND : ∀ (a' : Act) (wq : World), True := fun _ _ => trivial
    clear hEND
    by_cases hlt : k < l.length
    · obtain ⟨g, off, rfl, _, _, _⟩ := hs.cells k hlt
      have HX : Hid (∀ W, Frm (fun _ => False) wr W → W.cell? ⟨g, off + k * 3, none⟩ = some (.int .u8 l[k].r) ∧ W.cell? ⟨g, off + k * 3 + 1, none⟩ = some (.int .u32 l[k].n) ∧ W.cell? ⟨g, off + k * 3 + 2, none⟩ = some (.string (bs l[k].s))) := Lib.hid fun W gW => by
        obtain ⟨g2, off2, e, x0, x1, x2⟩ := (hs.keepF (f1.trans gW)).cells k hlt
        cases e
        exact ⟨x0, x1, x2⟩
      have HS : Hid (∀ W, Frm (fun _ => False) wr W → Blk W N 105 #[.int .u8 s.r, .int .u32 s.n, .string (bs s.s)]) := Lib.hid fun W gW => HS0.out.keep (f1.trans gW) (fun h => h)
      obtain ⟨q, hq⟩ : ∃ q, ltB l[k] s = q := ⟨_, rfl⟩
      have HQ0 := Lib.hid hq
      obtain ⟨x, hx⟩ : ∃ x, l[k] = x := ⟨_, rfl⟩
      have HX1 := Lib.hid hx
      rw [hx] at HX hq
      have HQ : Hid (decide (x.n < s.n ∨ x.n = s.n ∧ x.r < s.r) = q) := Lib.hid hq
      have hki : (k : Int) < (l.length : Int) := by omega
      have hk0 : (0 : Int) ≤ (k : Int) := by omega
      clear hq hx hcase
      go_upto_region 2 with fail
      rename_i hK
      have D : Frm (fun _ => False) wr wr.drew := (Frm.refl _ _).drew
      refine wp_region_late 14 0 [] [[], [], [1], [0, 2], [3], [4], [4], [4, 5, 6], [4, 7], [4, 8], [4], [4, 10], [4, 9, 11], [4, 12]] pu2aM (pu2aR g off l.length cap k N x s q) (by kernel_rfl) rfl rfl rfl (by kernel_rfl) (by kernel_rfl) (by kernel_rfl) (by kernel_rfl) rfl (by kernel_rfl) (by kernel_rfl) (by kernel_rfl) (by kernel_rfl) (fun val => ?_) ?_
      · try dsimp only
        refine RelO.next (k' := 1) rfl (fun W gW hF => ?_) ?_
        focus
          refine OpOK.val (u := .int .i64 (k : Int)) (by rfl) ?_ (fun W' _ => rfl)
          try simp only [tupAt]
          first | (go_simp; done) | (go_simp; with_reducible rfl) | (go_simp; rfl)
        try simp only [Act.put, List.setIfInBounds_toArray, List.set_cons_zero, List.set_cons_succ]
        refine RelO.next (k' := 2) rfl (fun W gW hF => ?_) ?_
        focus
          refine OpOK.val (u := .slice (some ⟨g, off, none⟩) l.length cap) (by rfl) ?_ (fun W' _ => rfl)
          try simp only [tupAt]
          first | (go_simp; done) | (go_simp; with_reducible rfl) | (go_simp; rfl)
        try simp only [Act.put, List.setIfInBounds_toArray, List.set_cons_zero, List.set_cons_succ]
        refine RelO.next (k' := 3) rfl (fun W gW hF => ?_) ?_
        focus
          obtain ⟨h1, _⟩ := hF
          have e1 : val 1 = .slice (some ⟨g, off, none⟩) l.length cap := h1 _ (Frm.refl _ W)
          try simp only [e1]
          try simp only [tupAt]
          refine OpOK.val (u := .int .i64 (l.length : Int)) (by rfl) ?_ (fun W' _ => rfl)
          try simp only [e1]
          try simp only [tupAt]
          first | (go_simp; done) | (go_simp; with_reducible rfl) | (go_simp; rfl)
        try simp only [Act.put, List.setIfInBounds_toArray, List.set_cons_zero, List.set_cons_succ]
        refine RelO.next (k' := 4) rfl (fun W gW hF => ?_) ?_
        focus
          obtain ⟨h0, h2, _⟩ := hF
          have e0 : val 0 = .int .i64 (k : Int) := h0 _ (Frm.refl _ W)
          have e2 : val 2 = .int .i64 (l.length : Int) := h2 _ (Frm.refl _ W)
          try simp only [e2]
          try simp only [e0]
          try simp only [tupAt]
          refine OpOK.val (u := .bool true) (by rfl) ?_ (fun W' _ => rfl)
          try simp only [e2]
          try simp only [e0]
          try simp only [tupAt]
          first | (go_simp; done) | (go_simp; with_reducible rfl) | (go_simp; rfl)
        try simp only [Act.put, List.setIfInBounds_toArray, List.set_cons_zero, List.set_cons_succ]
        refine RelO.next (k' := 5) rfl (fun W gW hF => ?_) ?_
        focus
          obtain ⟨h3, _⟩ := hF
          have e3 : val 3 = .bool true := h3 _ (Frm.refl _ W)
          try simp only [e3]
          try simp only [tupAt]
          refine OpOK.val (u := .bool true) (by rfl) ?_ (fun W' _ => rfl)
          try simp only [e3]
          try simp only [tupAt]
          first | (go_simp; done) | (go_simp; with_reducible rfl) | (go_simp; rfl)
        try simp only [Act.put, List.setIfInBounds_toArray, List.set_cons_zero, List.set_cons_succ]
        refine RelO.next (k' := 6) rfl (fun W gW hF => ?_) ?_
        focus
          obtain ⟨h4, _⟩ := hF
          have e4 : val 4 = .bool true := h4 _ (Frm.refl _ W)
          try simp only [e4]
          try simp only [tupAt]
          refine OpOK.val (u := .slice (some ⟨g, off, none⟩) l.length cap) (by rfl) ?_ (fun W' _ => rfl)
          try simp only [e4]
          try simp only [tupAt]
          first | (go_simp; done) | (go_simp; with_reducible rfl) | (go_simp; rfl)
        try simp only [Act.put, List.setIfInBounds_toArray, List.set_cons_zero, List.set_cons_succ]
        refine RelO.next (k' := 7) rfl (fun W gW hF => ?_) ?_
        focus
          obtain ⟨h4, _⟩ := hF
          have e4 : val 4 = .bool true := h4 _ (Frm.refl _ W)
          try simp only [e4]
          try simp only [tupAt]
          refine OpOK.val (u := .int .i64 (k : Int)) (by rfl) ?_ (fun W' _ => rfl)
          try simp only [e4]
          try simp only [tupAt]
          first | (go_simp; done) | (go_simp; with_reducible rfl) | (go_simp; rfl)
        try simp only [Act.put, List.setIfInBounds_toArray, List.set_cons_zero, List.set_cons_succ]
        refine RelO.next (k' := 8) rfl (fun W gW hF => ?_) ?_
        focus
          obtain ⟨h4, h5, h6, _⟩ := hF
          have e4 : val 4 = .bool true := h4 _ (Frm.refl _ W)
          have e5 : val 5 = .slice (some ⟨g, off, none⟩) l.length cap := h5 _ (Frm.refl _ W)
          have e6 : val 6 = .int .i64 (k : Int) := h6 _ (Frm.refl _ W)
          try simp only [e6]
          try simp only [e5]
          try simp only [e4]
          try simp only [tupAt]
          refine OpOK.val (u := .pointer (some ⟨g, off + k * 3, none⟩)) (by rfl) ?_ (fun W' _ => rfl)
          try simp only [e6]
          try simp only [e5]
          try simp only [e4]
          try simp only [tupAt]
          first | (go_simp; done) | (go_simp; with_reducible rfl) | (go_simp; rfl)
        try simp only [Act.put, List.setIfInBounds_toArray, List.set_cons_zero, List.set_cons_succ]
        refine RelO.next (k' := 9) rfl (fun W gW hF => ?_) ?_
        focus
          obtain ⟨h4, h7, _⟩ := hF
          have e4 : val 4 = .bool true := h4 _ (Frm.refl _ W)
          have e7 : val 7 = .pointer (some ⟨g, off + k * 3, none⟩) := h7 _ (Frm.refl _ W)
          try simp only [e7]
          try simp only [e4]
          try simp only [tupAt]
          refine OpOK.val (u := .pointer (some ⟨g, off + k * 3, none⟩)) (by rfl) ?_ (fun W' _ => rfl)
          try simp only [e7]
          try simp only [e4]
          try simp only [tupAt]
          first | (go_simp; done) | (go_simp; with_reducible rfl) | (go_simp; rfl)
        try simp only [Act.put, List.setIfInBounds_toArray, List.set_cons_zero, List.set_cons_succ]
        refine RelO.next (k' := 10) rfl (fun W gW hF => ?_) ?_
        focus
          obtain ⟨h4, h8, _⟩ := hF
          have e4 : val 4 = .bool true := h4 _ (Frm.refl _ W)
          have e8 : val 8 = .pointer (some ⟨g, off + k * 3, none⟩) := h8 _ (Frm.refl _ W)
          try simp only [e8]
          try simp only [e4]
          try simp only [tupAt]
          obtain ⟨x0, x1, x2⟩ := HX.out W (D.trans gW)
          exact OpOK.val (u := .agg (dv x.r x.n)) (by rfl) (by first | (go_simp; done) | (go_simp; with_reducible rfl) | (go_simp; rfl)) (fun W' _ => rfl)
        try simp only [Act.put, List.setIfInBounds_toArray, List.set_cons_zero, List.set_cons_succ]
        refine RelO.next (k' := 11) rfl (fun W gW hF => ?_) ?_
        focus
          obtain ⟨h4, _⟩ := hF
          have e4 : val 4 = .bool true := h4 _ (Frm.refl _ W)
          try simp only [e4]
          try simp only [tupAt]
          refine OpOK.val (u := .pointer (some ⟨N, 0, none⟩)) (by rfl) ?_ (fun W' _ => rfl)
          try simp only [e4]
          try simp only [tupAt]
          first | (go_simp; done) | (go_simp; with_reducible rfl) | (go_simp; rfl)
        try simp only [Act.put, List.setIfInBounds_toArray, List.set_cons_zero, List.set_cons_succ]
        refine RelO.next (k' := 12) rfl (fun W gW hF => ?_) ?_
        focus
          obtain ⟨h4, h10, _⟩ := hF
          have e4 : val 4 = .bool true := h4 _ (Frm.refl _ W)
          have e10 : val 10 = .pointer (some ⟨N, 0, none⟩) := h10 _ (Frm.refl _ W)
          try simp only [e10]
          try simp only [e4]
          try simp only [tupAt]
          have y0 := (HS.out W (D.trans gW)).cell 0 rfl
          have y1 := (HS.out W (D.trans gW)).cell 1 rfl
          exact OpOK.val (u := .agg (dv s.r s.n)) (by rfl) (by first | (go_simp; done) | (go_simp; with_reducible rfl) | (go_simp; rfl)) (fun W' _ => rfl)
        try simp only [Act.put, List.setIfInBounds_toArray, List.set_cons_zero, List.set_cons_succ]
        refine RelO.next (k' := 13) rfl (fun W gW hF => ?_) ?_
        focus
          obtain ⟨h4, h9, h11, _⟩ := hF
          have e4 : val 4 = .bool true := h4 _ (Frm.refl _ W)
          have e9 : val 9 = .agg (dv x.r x.n) := h9 _ (Frm.refl _ W)
          have e11 : val 11 = .agg (dv s.r s.n) := h11 _ (Frm.refl _ W)
          try simp only [e11]
          try simp only [e9]
          try simp only [e4]
          try simp only [tupAt]
          refine OpOK.call (by rfl) ?_ ((rless_any x.r x.n s.r s.n W).mono ?_)
          · first | (go_simp; done) | (go_simp; with_reducible rfl) | (go_simp; rfl)
          · rintro e W1 ⟨he, g1⟩
            rw [HQ.out] at he
            subst he
            exact ⟨_, rfl, g1, fun W2 _ => rfl⟩
        try simp only [Act.put, List.setIfInBounds_toArray, List.set_cons_zero, List.set_cons_succ]
        refine RelO.next (k' := 14) rfl (fun W gW hF => ?_) ?_
        focus
          obtain ⟨h4, h12, _⟩ := hF
          have e4 : val 4 = .bool true := h4 _ (Frm.refl _ W)
          have e12 : val 12 = .bool q := h12 _ (Frm.refl _ W)
          try simp only [e12]
          try simp only [e4]
          try simp only [tupAt]
          refine OpOK.val (u := .bool q) (by rfl) ?_ (fun W' _ => rfl)
          try simp only [e12]
          try simp only [e4]
          try simp only [tupAt]
          first | (go_simp; done) | (go_simp; with_reducible rfl) | (go_simp; rfl)
        try simp only [Act.put, List.setIfInBounds_toArray, List.set_cons_zero, List.set_cons_succ]
        exact RelO.nil
      intro val W gW hF
      obtain ⟨h0, h1, h2, h3, h4, h5, h6, h7, h8, h9, h10, h11, h12, h13, _⟩ := hF
      have e0 : val 0 = .int .i64 (k : Int) := h0 _ (Frm.refl _ W)
      have e1 : val 1 = .slice (some ⟨g, off, none⟩) l.length cap := h1 _ (Frm.refl _ W)
      have e2 : val 2 = .int .i64 (l.length : Int) := h2 _ (Frm.refl _ W)
      have e3 : val 3 = .bool true := h3 _ (Frm.refl _ W)
      have e4 : val 4 = .bool true := h4 _ (Frm.refl _ W)
      have e5 : val 5 = .slice (some ⟨g, off, none⟩) l.length cap := h5 _ (Frm.refl _ W)
      have e6 : val 6 = .int .i64 (k : Int) := h6 _ (Frm.refl _ W)
      have e7 : val 7 = .pointer (some ⟨g, off + k * 3, none⟩) := h7 _ (Frm.refl _ W)
      have e8 : val 8 = .pointer (some ⟨g, off + k * 3, none⟩) := h8 _ (Frm.refl _ W)
      have e9 : val 9 = .agg (dv x.r x.n) := h9 _ (Frm.refl _ W)
      have e10 : val 10 = .pointer (some ⟨N, 0, none⟩) := h10 _ (Frm.refl _ W)
      have e11 : val 11 = .agg (dv s.r s.n) := h11 _ (Frm.refl _ W)
      have e12 : val 12 = .bool q := h12 _ (Frm.refl _ W)
      have e13 : val 13 = .bool q := h13 _ (Frm.refl _ W)
      clear h0 h1 h2 h3 h4 h5 h6 h7 h8 h9 h10 h11 h12 h13
      simp only [aO, Act.put, List.setIfInBounds_toArray, List.set_cons_zero, List.set_cons_succ, Nat.reduceAdd]
      try simp only [e13]
      try simp only [e12]
      try simp only [e11]
      try simp only [e10]
      try simp only [e9]
      try simp only [e8]
      try simp only [e7]
      try simp only [e6]
      try simp only [e5]
      try simp only [e4]
      try simp only [e3]
      try simp only [e2]
      try simp only [e1]
      try simp only [e0]
      try simp only [tupAt]
      refine wpTail.doneN ?_
      refine hK _ _ ?_
      have gD := D.trans gW
      clear gW D hK e0 e1 e2 e3 e4 e5 e6 e7 e8 e9 e10 e11 e12 e13
      cases q with
      | true =>
        go_wp2_with fail
        go_roundw
        case rel =>
          refine ⟨k + 1, by omega, by go_num, fun j hj hjk => ?_, f1.trans gD⟩
          by_cases e : j = k
          · subst e; exact HQ0.out
          · exact HBF.out j hj (by omega)
        case measure => simp [intOf]; omega
      | false =>
        have HPUT := Lib.hid (putL_at s l k (by omega) HBF.out (fun _ => HQ0.out))
        have fE := f1.trans gD
        have hs2 := hs.keepF fE
        have S1 : SL W (.slice (some ⟨g, off, none⟩) k cap) (l.take k) := by
          unfold SL
          rw [List.length_take, Nat.min_eq_left (by omega), ← flat_take sibc sibc_len]
          exact Sl.take hs2 k cap (by omega) (by omega) (Nat.le_refl _)
        have HD : Hid (SL W (.slice (if cap = k then (some ⟨g, off, none⟩) else Option.map (fun x : Addr => x.add (k * 3)) (some ⟨g, off, none⟩)) (l.length - k) (cap - k)) (l.drop k)) := Lib.hid (by
          have e := Sl.drop hs2 k (by omega)
          rw [flat_drop sibc sibc_len] at e
          unfold SL
          rw [List.length_drop]
          exact e)
        obtain ⟨v1, w3, r1, o1, gr1, nb1⟩ := append_rsibs W (.slice none 0 0) (.slice (some ⟨g, off, none⟩) k cap) [] (l.take k) (OwnL.nil_ _) S1 (by rw [List.length_take]; simp; omega)
        rw [List.nil_append] at o1
        have f3 : Frm (fun _ => False) W w3 := (Frm.refl _ W).grown gr1 (fun k _ e => by cases e)
        have n1 : ∀ g, v1.ownBlock = some g → W.heap.size ≤ g := fun g e => (nb1 g e).elim (fun e => by cases e) (fun e => e)
        have hb3 := HS0.out.keep (fE.trans f3) (fun h => h)
        have y0 := hb3.cell 0 rfl
        have y1 := hb3.cell 1 rfl
        have y2 := hb3.cell 2 rfl
        have f4 := (Frm.refl (fun _ => False) w3).alloc (.cells #[.int .u8 s.r, .int .u32 s.n, .string (bs s.s)] 105)
        obtain ⟨v2, w5, r2, o2, gr2, nb2⟩ := append_rsibs _ _ _ _ [s] (o1.keep f4 (fun _ _ h => h)) (Sl.one w3 105 s) (by rw [List.length_take]; simp; omega)
        have f5 : Frm (fun k => v1.ownBlock = some k) w3 w5 := (f4.mono (fun _ _ h => h.elim)).grown gr2 (fun k _ e => e)
        have k5 : Frm (fun _ => False) W w5 := f3.next f5 (fun k hk e => by have := n1 k e; omega)
        have n2 : ∀ g, v2.ownBlock = some g → W.heap.size ≤ g := fun g e => (nb2 g e).elim (fun e => n1 g e) (fun e => by have := f3.size; simp at e; omega)
        obtain ⟨v3, w6, r3, o3, gr3, nb3⟩ := append_rsibs w5 v2 _ _ _ o2 (HD.out.keepF k5) (by rw [List.length_append, List.length_take, List.length_drop]; simp; omega)
        have n3 : ∀ g, v3.ownBlock = some g → W.heap.size ≤ g := fun g e => (nb3 g e).elim (fun e => n2 g e) (fun e => by have := k5.size; omega)
        have k6 : Frm (fun _ => False) W w6 := k5.grown gr3 (fun k hk e => by have := n2 k e; omega)
        have e3 : l.take k ++ [s] ++ l.drop k = putL l s := by rw [HPUT.out]; simp
        rw [e3] at o3
        obtain ⟨a1, c1, rfl, _, _⟩ := Row.slice o1
        obtain ⟨a5, c5, rfl, _, _⟩ := Row.slice o2
        obtain ⟨a6, c6, rfl, _, _⟩ := Row.slice o3
        have R1 := Lib.hid r1
        have R2 := Lib.hid r2
        have R3 := Lib.hid r3
        have HO3 := Lib.hid (And.intro o3 (And.intro n3 k6))
        have HFE := Lib.hid fE
        clear r1 r2 r3 o1 o2 o3 gr1 gr2 gr3 nb1 nb2 nb3 n1 n2 n3 k5 k6 f3 f4 f5 hb3 S1 hs2 e3 fE
        have hk0 : (0 : Int) ≤ (k : Int) := by omega
        have hkl : (k : Int) ≤ (l.length : Int) := by omega
        have hkc : (k : Int) ≤ (cap : Int) := by omega
        generalize (l.take k).length = z1 at *
        generalize (l.take k ++ [s]).length = z2 at *
        generalize (putL l s).length = z3 at *
        go_upto_region 6 with (first
          | ((with_reducible refine wpl_first rfl _ _ rfl (some ⟨g, off, none⟩) l.length cap k ?_ ?_ (by omega) ?_); (focus rfl); (focus rfl))
          | (at_builtin; refine Lib.wpList_append_run _ rfl _ _ _ _ rfl _ _ rfl rfl _ _ R1.out ?_))
        go_upto_region 7 with (at_builtin; refine Lib.wpList_append_run _ rfl _ _ _ _ rfl _ _ rfl rfl _ _ R2.out ?_)
        go_wp2_with (first
          | ((with_reducible refine wpl_behind rfl _ _ rfl (some ⟨g, off, none⟩) l.length cap k ?_ ?_ (by omega) ?_); (focus rfl); (focus rfl))
          | (at_builtin; refine Lib.wpList_append_run _ rfl _ _ _ _ rfl _ _ rfl rfl _ _ R3.out ?_))
        all_goals
          go_ret
          obtain ⟨q1, q2, q3⟩ := HO3.out
          exact ⟨_, rfl, q1, (g0.trans HFE.out).trans q3, fun g e => by have := q2 g e; have := (g0.trans HFE.out).size; omega⟩
    · obtain rfl : k = l.length := by omega
      have HPUT := Lib.hid (putL_at s l l.length (Nat.le_refl _) (fun j h _ => HBF.out j h h) (fun h => absurd h (by omega)))
      have hnot : ¬ ((l.length : Int) < (l.length : Int)) := by omega
      clear hnot hcase hlt
      go_upto_region 2 with fail
      rename_i hK
      have D : Frm (fun _ => False) wr wr.drew := (Frm.refl _ _).drew
      refine wp_region_late 14 0 [] [[], [], [1], [0, 2], [3], [4], [4], [4, 5, 6], [4, 7], [4, 8], [4], [4, 10], [4, 9, 11], [4, 12]] pu2bM (pu2bR a l.length cap) (by kernel_rfl) rfl rfl rfl (by kernel_rfl) (by kernel_rfl) (by kernel_rfl) (by kernel_rfl) rfl (by kernel_rfl) (by kernel_rfl) (by kernel_rfl) (by kernel_rfl) (fun val => ?_) ?_
      · try dsimp only
        refine RelO.next (k' := 1) rfl (fun W gW hF => ?_) ?_
        focus
          refine OpOK.val (u := .int .i64 (l.length : Int)) (by rfl) ?_ (fun W' _ => rfl)
          try simp only [tupAt]
          first | (go_simp; done) | (go_simp; with_reducible rfl) | (go_simp; rfl)
        try simp only [Act.put, List.setIfInBounds_toArray, List.set_cons_zero, List.set_cons_succ]
        refine RelO.next (k' := 2) rfl (fun W gW hF => ?_) ?_
        focus
          refine OpOK.val (u := .slice a l.length cap) (by rfl) ?_ (fun W' _ => rfl)
          try simp only [tupAt]
          first | (go_simp; done) | (go_simp; with_reducible rfl) | (go_simp; rfl)
        try simp only [Act.put, List.setIfInBounds_toArray, List.set_cons_zero, List.set_cons_succ]
        refine RelO.next (k' := 3) rfl (fun W gW hF => ?_) ?_
        focus
          obtain ⟨h1, _⟩ := hF
          have e1 : val 1 = .slice a l.length cap := h1 _ (Frm.refl _ W)
          try simp only [e1]
          try simp only [tupAt]
          refine OpOK.val (u := .int .i64 (l.length : Int)) (by rfl) ?_ (fun W' _ => rfl)
          try simp only [e1]
          try simp only [tupAt]
          first | (go_simp; done) | (go_simp; with_reducible rfl) | (go_simp; rfl)
        try simp only [Act.put, List.setIfInBounds_toArray, List.set_cons_zero, List.set_cons_succ]
        refine RelO.next (k' := 4) rfl (fun W gW hF => ?_) ?_
        focus
          obtain ⟨h0, h2, _⟩ := hF
          have e0 : val 0 = .int .i64 (l.length : Int) := h0 _ (Frm.refl _ W)
          have e2 : val 2 = .int .i64 (l.length : Int) := h2 _ (Frm.refl _ W)
          try simp only [e2]
          try simp only [e0]
          try simp only [tupAt]
          refine OpOK.val (u := .bool false) (by rfl) ?_ (fun W' _ => rfl)
          try simp only [e2]
          try simp only [e0]
          try simp only [tupAt]
          first | (go_simp; done) | (go_simp; with_reducible rfl) | (go_simp; rfl)
        try simp only [Act.put, List.setIfInBounds_toArray, List.set_cons_zero, List.set_cons_succ]
        refine RelO.next (k' := 5) rfl (fun W gW hF => ?_) ?_
        focus
          obtain ⟨h3, _⟩ := hF
          have e3 : val 3 = .bool false := h3 _ (Frm.refl _ W)
          try simp only [e3]
          try simp only [tupAt]
          refine OpOK.val (u := .bool false) (by rfl) ?_ (fun W' _ => rfl)
          try simp only [e3]
          try simp only [tupAt]
          first | (go_simp; done) | (go_simp; with_reducible rfl) | (go_simp; rfl)
        try simp only [Act.put, List.setIfInBounds_toArray, List.set_cons_zero, List.set_cons_succ]
        refine RelO.next (k' := 6) rfl (fun W gW hF => ?_) ?_
        focus
          obtain ⟨h4, _⟩ := hF
          have e4 : val 4 = .bool false := h4 _ (Frm.refl _ W)
          try simp only [e4]
          try simp only [tupAt]
          exact OpOK.skip (by rfl) (fun W' _ => rfl)
        try simp only [Act.put, List.setIfInBounds_toArray, List.set_cons_zero, List.set_cons_succ]
        refine RelO.next (k' := 7) rfl (fun W gW hF => ?_) ?_
        focus
          obtain ⟨h4, _⟩ := hF
          have e4 : val 4 = .bool false := h4 _ (Frm.refl _ W)
          try simp only [e4]
          try simp only [tupAt]
          exact OpOK.skip (by rfl) (fun W' _ => rfl)
        try simp only [Act.put, List.setIfInBounds_toArray, List.set_cons_zero, List.set_cons_succ]
        refine RelO.next (k' := 8) rfl (fun W gW hF => ?_) ?_
        focus
          obtain ⟨h4, h5, h6, _⟩ := hF
          have e4 : val 4 = .bool false := h4 _ (Frm.refl _ W)
          have e5 : val 5 = undef := h5 _ (Frm.refl _ W)
          have e6 : val 6 = undef := h6 _ (Frm.refl _ W)
          try simp only [e6]
          try simp only [e5]
          try simp only [e4]
          try simp only [tupAt]
          exact OpOK.skip (by rfl) (fun W' _ => rfl)
        try simp only [Act.put, List.setIfInBounds_toArray, List.set_cons_zero, List.set_cons_succ]
        refine RelO.next (k' := 9) rfl (fun W gW hF => ?_) ?_
        focus
          obtain ⟨h4, h7, _⟩ := hF
          have e4 : val 4 = .bool false := h4 _ (Frm.refl _ W)
          have e7 : val 7 = undef := h7 _ (Frm.refl _ W)
          try simp only [e7]
          try simp only [e4]
          try simp only [tupAt]
          exact OpOK.skip (by rfl) (fun W' _ => rfl)
        try simp only [Act.put, List.setIfInBounds_toArray, List.set_cons_zero, List.set_cons_succ]
        refine RelO.next (k' := 10) rfl (fun W gW hF => ?_) ?_
        focus
          obtain ⟨h4, h8, _⟩ := hF
          have e4 : val 4 = .bool false := h4 _ (Frm.refl _ W)
          have e8 : val 8 = undef := h8 _ (Frm.refl _ W)
          try simp only [e8]
          try simp only [e4]
          try simp only [tupAt]
          exact OpOK.skip (by rfl) (fun W' _ => rfl)
        try simp only [Act.put, List.setIfInBounds_toArray, List.set_cons_zero, List.set_cons_succ]
        refine RelO.next (k' := 11) rfl (fun W gW hF => ?_) ?_
        focus
          obtain ⟨h4, _⟩ := hF
          have e4 : val 4 = .bool false := h4 _ (Frm.refl _ W)
          try simp only [e4]
          try simp only [tupAt]
          exact OpOK.skip (by rfl) (fun W' _ => rfl)
        try simp only [Act.put, List.setIfInBounds_toArray, List.set_cons_zero, List.set_cons_succ]
        refine RelO.next (k' := 12) rfl (fun W gW hF => ?_) ?_
        focus
          obtain ⟨h4, h10, _⟩ := hF
          have e4 : val 4 = .bool false := h4 _ (Frm.refl _ W)
          have e10 : val 10 = undef := h10 _ (Frm.refl _ W)
          try simp only [e10]
          try simp only [e4]
          try simp only [tupAt]
          exact OpOK.skip (by rfl) (fun W' _ => rfl)
        try simp only [Act.put, List.setIfInBounds_toArray, List.set_cons_zero, List.set_cons_succ]
        refine RelO.next (k' := 13) rfl (fun W gW hF => ?_) ?_
        focus
          obtain ⟨h4, h9, h11, _⟩ := hF
          have e4 : val 4 = .bool false := h4 _ (Frm.refl _ W)
          have e9 : val 9 = undef := h9 _ (Frm.refl _ W)
          have e11 : val 11 = undef := h11 _ (Frm.refl _ W)
          try simp only [e11]
          try simp only [e9]
          try simp only [e4]
          try simp only [tupAt]
          exact OpOK.skip (by rfl) (fun W' _ => rfl)
        try simp only [Act.put, List.setIfInBounds_toArray, List.set_cons_zero, List.set_cons_succ]
        refine RelO.next (k' := 14) rfl (fun W gW hF => ?_) ?_
        focus
          obtain ⟨h4, h12, _⟩ := hF
          have e4 : val 4 = .bool false := h4 _ (Frm.refl _ W)
          have e12 : val 12 = undef := h12 _ (Frm.refl _ W)
          try simp only [e12]
          try simp only [e4]
          try simp only [tupAt]
          refine OpOK.val (u := .bool false) (by rfl) ?_ (fun W' _ => rfl)
          try simp only [e12]
          try simp only [e4]
          try simp only [tupAt]
          first | (go_simp; done) | (go_simp; with_reducible rfl) | (go_simp; rfl)
        try simp only [Act.put, List.setIfInBounds_toArray, List.set_cons_zero, List.set_cons_succ]
        exact RelO.nil
      intro val W gW hF
      obtain ⟨h0, h1, h2, h3, h4, h5, h6, h7, h8, h9, h10, h11, h12, h13, _⟩ := hF
      have e0 : val 0 = .int .i64 (l.length : Int) := h0 _ (Frm.refl _ W)
      have e1 : val 1 = .slice a l.length cap := h1 _ (Frm.refl _ W)
      have e2 : val 2 = .int .i64 (l.length : Int) := h2 _ (Frm.refl _ W)
      have e3 : val 3 = .bool false := h3 _ (Frm.refl _ W)
      have e4 : val 4 = .bool false := h4 _ (Frm.refl _ W)
      have e5 : val 5 = undef := h5 _ (Frm.refl _ W)
      have e6 : val 6 = undef := h6 _ (Frm.refl _ W)
      have e7 : val 7 = undef := h7 _ (Frm.refl _ W)
      have e8 : val 8 = undef := h8 _ (Frm.refl _ W)
      have e9 : val 9 = undef := h9 _ (Frm.refl _ W)
      have e10 : val 10 = undef := h10 _ (Frm.refl _ W)
      have e11 : val 11 = undef := h11 _ (Frm.refl _ W)
      have e12 : val 12 = undef := h12 _ (Frm.refl _ W)
      have e13 : val 13 = .bool false := h13 _ (Frm.refl _ W)
      clear h0 h1 h2 h3 h4 h5 h6 h7 h8 h9 h10 h11 h12 h13
      simp only [aO, Act.put, List.setIfInBounds_toArray, List.set_cons_zero, List.set_cons_succ, Nat.reduceAdd]
      try simp only [e13]
      try simp only [e12]
      try simp only [e11]
      try simp only [e10]
      try simp only [e9]
      try simp only [e8]
      try simp only [e7]
      try simp only [e6]
      try simp only [e5]
      try simp only [e4]
      try simp only [e3]
      try simp only [e2]
      try simp only [e1]
      try simp only [e0]
      try simp only [tupAt]
      refine wpTail.doneN ?_
      refine hK _ _ ?_
      have gD := D.trans gW
      clear gW D hK e0 e1 e2 e3 e4 e5 e6 e7 e8 e9 e10 e11 e12 e13
      have fE := f1.trans gD
      have hs2 := hs.keepF fE
      have S1 : SL W (.slice a l.length cap) (l.take l.length) := by
        unfold SL
        rw [List.length_take, Nat.min_eq_left (by omega), ← flat_take sibc sibc_len]
        exact Sl.take hs2 l.length cap (by omega) (by omega) (Nat.le_refl _)
      have HD : Hid (SL W (.slice (if cap = l.length then a else Option.map (fun x : Addr => x.add (l.length * 3)) a) (l.length - l.length) (cap - l.length)) (l.drop l.length)) := Lib.hid (by
        have e := Sl.drop hs2 l.length (by omega)
        rw [flat_drop sibc sibc_len] at e
        unfold SL
        rw [List.length_drop]
        exact e)
      obtain ⟨v1, w3, r1, o1, gr1, nb1⟩ := append_rsibs W (.slice none 0 0) (.slice a l.length cap) [] (l.take l.length) (OwnL.nil_ _) S1 (by rw [List.length_take]; simp; omega)
      rw [List.nil_append] at o1
      have f3 : Frm (fun _ => False) W w3 := (Frm.refl _ W).grown gr1 (fun k _ e => by cases e)
      have n1 : ∀ g, v1.ownBlock = some g → W.heap.size ≤ g := fun g e => (nb1 g e).elim (fun e => by cases e) (fun e => e)
      have hb3 := HS0.out.keep (fE.trans f3) (fun h => h)
      have y0 := hb3.cell 0 rfl
      have y1 := hb3.cell 1 rfl
      have y2 := hb3.cell 2 rfl
      have f4 := (Frm.refl (fun _ => False) w3).alloc (.cells #[.int .u8 s.r, .int .u32 s.n, .string (bs s.s)] 105)
      obtain ⟨v2, w5, r2, o2, gr2, nb2⟩ := append_rsibs _ _ _ _ [s] (o1.keep f4 (fun _ _ h => h)) (Sl.one w3 105 s) (by rw [List.length_take]; simp; omega)
      have f5 : Frm (fun k => v1.ownBlock = some k) w3 w5 := (f4.mono (fun _ _ h => h.elim)).grown gr2 (fun k _ e => e)
      have k5 : Frm (fun _ => False) W w5 := f3.next f5 (fun k hk e => by have := n1 k e; omega)
      have n2 : ∀ g, v2.ownBlock = some g → W.heap.size ≤ g := fun g e => (nb2 g e).elim (fun e => n1 g e) (fun e => by have := f3.size; simp at e; omega)
      obtain ⟨v3, w6, r3, o3, gr3, nb3⟩ := append_rsibs w5 v2 _ _ _ o2 (HD.out.keepF k5) (by rw [List.length_append, List.length_take, List.length_drop]; simp; omega)
      have n3 : ∀ g, v3.ownBlock = some g → W.heap.size ≤ g := fun g e => (nb3 g e).elim (fun e => n2 g e) (fun e => by have := k5.size; omega)
      have k6 : Frm (fun _ => False) W w6 := k5.grown gr3 (fun k hk e => by have := n2 k e; omega)
      have e3 : l.take l.length ++ [s] ++ l.drop l.length = putL l s := by rw [HPUT.out]; simp
      rw [e3] at o3
      obtain ⟨a1, c1, rfl, _, _⟩ := Row.slice o1
      obtain ⟨a5, c5, rfl, _, _⟩ := Row.slice o2
      obtain ⟨a6, c6, rfl, _, _⟩ := Row.slice o3
      have R1 := Lib.hid r1
      have R2 := Lib.hid r2
      have R3 := Lib.hid r3
      have HO3 := Lib.hid (And.intro o3 (And.intro n3 k6))
      have HFE := Lib.hid fE
      clear r1 r2 r3 o1 o2 o3 gr1 gr2 gr3 nb1 nb2 nb3 n1 n2 n3 k5 k6 f3 f4 f5 hb3 S1 hs2 e3 fE
      have hk0 : (0 : Int) ≤ (l.length : Int) := by omega
      have hkl : (l.length : Int) ≤ (l.length : Int) := by omega
      have hkc : (l.length : Int) ≤ (cap : Int) := by omega
      generalize (l.take l.length).length = z1 at *
      generalize (l.take l.length ++ [s]).length = z2 at *
      generalize (putL l s).length = z3 at *
      go_upto_region 6 with (first
        | ((with_reducible refine wpl_first rfl _ _ rfl a l.length cap l.length ?_ ?_ (by omega) ?_); (focus rfl); (focus rfl))
        | (at_builtin; refine Lib.wpList_append_run _ rfl _ _ _ _ rfl _ _ rfl rfl _ _ R1.out ?_))
      go_upto_region 7 with (at_builtin; refine Lib.wpList_append_run _ rfl _ _ _ _ rfl _ _ rfl rfl _ _ R2.out ?_)
      go_wp2_with (first
        | ((with_reducible refine wpl_behind rfl _ _ rfl a l.length cap l.length ?_ ?_ (by omega) ?_); (focus rfl); (focus rfl))
        | (at_builtin; refine Lib.wpList_append_run _ rfl _ _ _ _ rfl _ _ rfl rfl _ _ R3.out ?_))
      all_goals
        go_ret
        obtain ⟨q1, q2, q3⟩ := HO3.out
        exact ⟨_, rfl, q1, (g0.trans HFE.out).trans q3, fun g e => by have := q2 g e; have := (g0.trans HFE.out).size; omega⟩

def lo5M : List Nat := [1, 3, 4, 12, 16, 60, 124, 252, 511, 1023]
def lo5R (h : Nat → Nat) (vm : Value) (m : List SibI) (N g off k n cap : Nat) (x : SibI) (q : Bool) : List ((Nat → Value) → World → Prop) := [
  fun val _ => val 0 = rg h vm,
  fun val W => ∃ z, (val 1) = z ∧ DL W z (m.map SibI.d),
  fun val _ => val 2 = .pointer (some ⟨N, 8, none⟩),
  fun val _ => val 3 = .slice (some ⟨g, off, none⟩) n cap,
  fun val _ => val 4 = .int .i64 (k : Int),
  fun val _ => val 5 = .pointer (some ⟨g, off + k * 3, none⟩),
  fun val _ => val 6 = .pointer (some ⟨g, off + k * 3, none⟩),
  fun val _ => val 7 = .agg (dv x.r x.n),
  fun val _ => val 8 = .bool q,
  fun val _ => val 9 = .bool (!q)]

set_option maxRecDepth 100000 in
set_option maxHeartbeats 4000000 in
theorem rlost_any (f h : Nat → Nat) (v vm : Value) (l m : List SibI) (w : World) (hl : SL w v l) (hm : SL w vm m) (hb : l.length ≤ 1000) (hbm : m.length ≤ 1000) :
    Calls Try.prog 31 #[rg f v, rg h vm] w (NewL (l.filter (fun x => !decide (x.d ∈ m.map SibI.d))) w) := by
  obtain ⟨a, cap, rfl, h1, h2⟩ := hl.slice
  unfold maxLen at h2
  have HLM := Lib.hid hbm
  have g0 : Frm (fun _ => False) w ((w.alloc (.cells (rgc f (.slice a l.length cap)) 47)).alloc (.cells (rgc h vm) 47)) := ((Frm.refl _ w).alloc _).alloc _
  have b0 : Blk ((w.alloc (.cells (rgc f (.slice a l.length cap)) 47)).alloc (.cells (rgc h vm) 47)) w.heap.size 47 (rgc f (.slice a l.length cap)) := (Blk.alloc w _ _).old _
  have b1 : Blk ((w.alloc (.cells (rgc f (.slice a l.length cap)) 47)).alloc (.cells (rgc h vm) 47)) (w.heap.size + 1) 47 (rgc h vm) := Blk.at1 w _ _ _
  have hs := hl.keepF g0
  have hms := hm.keepF g0
  go_enter Try.func31, Try.ntmps31
  go_upto_region 1 with fail
  generalize (w.alloc (.cells (rgc f (.slice a l.length cap)) 47)).alloc (.cells (rgc h vm) 47) = w1 at *
  obtain ⟨N, hN⟩ : ∃ N, w.heap.size = N := ⟨_, rfl⟩
  obtain ⟨M, hM⟩ : ∃ M, N + 1 = M := ⟨_, rfl⟩
  have HN := Lib.hid hN
  rw [hN] at b0 b1 ⊢
  rw [hM] at b1 ⊢
  have HB0 := Lib.hid b0
  have HM0 : Hid (∀ W, Frm (fun _ => False) w1 W → Blk W M 47 (rgc h vm) ∧ SL W vm m) := Lib.hid fun W g => ⟨b1.keep g (fun h => h), hms.keepF g⟩
  clear hN b0 b1 hM hms
  go_wp2_with fail
  go_loopw [5, 6] (fun u i wr => ∃ k : Nat, k ≤ l.length ∧ i = .int .i64 k ∧ OwnL wr u ((l.take k).filter (fun x => !decide (x.d ∈ m.map SibI.d))) ∧ (∀ g, u.ownBlock = some g → w1.heap.size ≤ g) ∧ Frm (fun _ => False) w1 wr) (fun _ i _ => l.length - (intOf i).toNat)
  case atStart => exact ⟨0, Nat.zero_le _, rfl, by rw [List.take_zero]; exact OwnL.nil_ _, (fun _ e => by cases e), Frm.refl _ _⟩
  case round =>
    obtain ⟨k, hk, rfl, hO, hNw, hF⟩ := hrel
    obtain ⟨a2, c2, rfl, _, _⟩ := Row.slice hO
    have c8 := (HB0.out.keep hF (fun h => h)).cell 8 rfl
    have HO := Lib.hid hO
    have HNw := Lib.hid hNw
    clear hO hNw
    by_cases hlt : k < l.length
    · obtain ⟨g, off, rfl, _, _, _⟩ := hs.cells k hlt
      have HX : Hid (∀ W, Frm (fun _ => False) wr W → W.cell? ⟨g, off + k * 3, none⟩ = some (.int .u8 l[k].r) ∧ W.cell? ⟨g, off + k * 3 + 1, none⟩ = some (.int .u32 l[k].n) ∧ W.cell? ⟨g, off + k * 3 + 2, none⟩ = some (.string (bs l[k].s))) := Lib.hid fun W gW => by
        obtain ⟨g2, off2, e, x0, x1, x2⟩ := (hs.keepF (hF.trans gW)).cells k hlt
        cases e
        exact ⟨x0, x1, x2⟩
      have HB : Hid (∀ W, Frm (fun _ => False) wr W → Blk W N 47 (rgc f (.slice (some ⟨g, off, none⟩) l.length cap))) := Lib.hid fun W gW => HB0.out.keep (hF.trans gW) (fun h => h)
      have HM : Hid (∀ W, Frm (fun _ => False) wr W → Blk W M 47 (rgc h vm) ∧ SL W vm m) := Lib.hid fun W gW => HM0.out W (hF.trans gW)
      have HTK := Lib.hid (show (l.take (k + 1)).filter (fun x => !decide (x.d ∈ m.map SibI.d)) = (l.take k).filter (fun x => !decide (x.d ∈ m.map SibI.d)) ++ [l[k]].filter (fun x => !decide (x.d ∈ m.map SibI.d)) by rw [List.take_succ_eq_append_getElem hlt, List.filter_append])
      have hfl : ((l.take k).filter (fun x => !decide (x.d ∈ m.map SibI.d))).length ≤ l.length := Nat.le_trans (List.length_filter_le _ _) (by rw [List.length_take]; omega)
      obtain ⟨x, hx⟩ : ∃ x, l[k] = x := ⟨_, rfl⟩
      obtain ⟨q, hq⟩ : ∃ q, decide (x.d ∈ m.map SibI.d) = q := ⟨_, rfl⟩
      have HQ := Lib.hid hq
      obtain ⟨n, hn⟩ : ∃ n, l.length = n := ⟨_, rfl⟩
      have HN2 := Lib.hid hn
      rw [hx] at HX HTK
      rw [hn] at HB
      have hki' : (k : Int) < (l.length : Int) := by omega
      have hki : (k : Int) < (n : Int) := by omega
      have hk0 : (0 : Int) ≤ (k : Int) := by omega
      clear hx hq hn
      go_upto_region 5 with fail
      rename_i hK
      have D : Frm (fun _ => False) wr wr.drew := (Frm.refl _ _).drew
      refine wp_region_late 10 0 [] [[], [0], [], [2], [], [3, 4], [5], [6], [1, 7], [8]] lo5M (lo5R h vm m N g off k n cap x q) (by kernel_rfl) rfl rfl rfl (by kernel_rfl) (by kernel_rfl) (by kernel_rfl) (by kernel_rfl) rfl (by kernel_rfl) (by kernel_rfl) (by kernel_rfl) (by kernel_rfl) (fun val => ?_) ?_
      · try dsimp only
        refine RelO.next (k' := 1) rfl (fun W gW hF => ?_) ?_
        focus
          exact OpOK.load (by rfl) _ rfl (by rfl) (load_rreg (HM.out W (D.trans gW)).1) (fun W' _ => rfl)
        try simp only [Act.put, List.setIfInBounds_toArray, List.set_cons_zero, List.set_cons_succ]
        refine RelO.next (k' := 2) rfl (fun W gW hF => ?_) ?_
        focus
          obtain ⟨h0, _⟩ := hF
          have e0 : val 0 = rg h vm := h0 _ (Frm.refl _ W)
          try simp only [e0]
          try simp only [tupAt]
          refine OpOK.call (by rfl) ?_ ((rdots_any h vm m W (HM.out W (D.trans gW)).2 HLM.out).mono ?_)
          · first | (go_simp; done) | (go_simp; with_reducible rfl) | (go_simp; rfl)
          · rintro e W1 ⟨v', rfl, o', g'⟩
            exact ⟨_, rfl, g', fun W2 g2 => ⟨v', rfl, o'.sl.keepF g2⟩⟩
        try simp only [Act.put, List.setIfInBounds_toArray, List.set_cons_zero, List.set_cons_succ]
        refine RelO.next (k' := 3) rfl (fun W gW hF => ?_) ?_
        focus
          refine OpOK.val (u := .pointer (some ⟨N, 8, none⟩)) (by rfl) ?_ (fun W' _ => rfl)
          try simp only [tupAt]
          first | (go_simp; done) | (go_simp; with_reducible rfl) | (go_simp; rfl)
        try simp only [Act.put, List.setIfInBounds_toArray, List.set_cons_zero, List.set_cons_succ]
        refine RelO.next (k' := 4) rfl (fun W gW hF => ?_) ?_
        focus
          obtain ⟨h2, _⟩ := hF
          have e2 : val 2 = .pointer (some ⟨N, 8, none⟩) := h2 _ (Frm.refl _ W)
          try simp only [e2]
          try simp only [tupAt]
          have c8 := (HB.out W (D.trans gW)).cell 8 rfl
          have a3 := Try.isAgg45
          have z3 := Try.sizeOf45
          exact OpOK.val (u := .slice (some ⟨g, off, none⟩) n cap) (by rfl) (by first | (go_simp; done) | (go_simp; with_reducible rfl) | (go_simp; rfl)) (fun W' _ => rfl)
        try simp only [Act.put, List.setIfInBounds_toArray, List.set_cons_zero, List.set_cons_succ]
        refine RelO.next (k' := 5) rfl (fun W gW hF => ?_) ?_
        focus
          refine OpOK.val (u := .int .i64 (k : Int)) (by rfl) ?_ (fun W' _ => rfl)
          try simp only [tupAt]
          first | (go_simp; done) | (go_simp; with_reducible rfl) | (go_simp; rfl)
        try simp only [Act.put, List.setIfInBounds_toArray, List.set_cons_zero, List.set_cons_succ]
        refine RelO.next (k' := 6) rfl (fun W gW hF => ?_) ?_
        focus
          obtain ⟨h3, h4, _⟩ := hF
          have e3 : val 3 = .slice (some ⟨g, off, none⟩) n cap := h3 _ (Frm.refl _ W)
          have e4 : val 4 = .int .i64 (k : Int) := h4 _ (Frm.refl _ W)
          try simp only [e4]
          try simp only [e3]
          try simp only [tupAt]
          refine OpOK.val (u := .pointer (some ⟨g, off + k * 3, none⟩)) (by rfl) ?_ (fun W' _ => rfl)
          try simp only [e4]
          try simp only [e3]
          try simp only [tupAt]
          first | (go_simp; done) | (go_simp; with_reducible rfl) | (go_simp; rfl)
        try simp only [Act.put, List.setIfInBounds_toArray, List.set_cons_zero, List.set_cons_succ]
        refine RelO.next (k' := 7) rfl (fun W gW hF => ?_) ?_
        focus
          obtain ⟨h5, _⟩ := hF
          have e5 : val 5 = .pointer (some ⟨g, off + k * 3, none⟩) := h5 _ (Frm.refl _ W)
          try simp only [e5]
          try simp only [tupAt]
          refine OpOK.val (u := .pointer (some ⟨g, off + k * 3, none⟩)) (by rfl) ?_ (fun W' _ => rfl)
          try simp only [e5]
          try simp only [tupAt]
          first | (go_simp; done) | (go_simp; with_reducible rfl) | (go_simp; rfl)
        try simp only [Act.put, List.setIfInBounds_toArray, List.set_cons_zero, List.set_cons_succ]
        refine RelO.next (k' := 8) rfl (fun W gW hF => ?_) ?_
        focus
          obtain ⟨h6, _⟩ := hF
          have e6 : val 6 = .pointer (some ⟨g, off + k * 3, none⟩) := h6 _ (Frm.refl _ W)
          try simp only [e6]
          try simp only [tupAt]
          obtain ⟨x0, x1, x2⟩ := HX.out W (D.trans gW)
          exact OpOK.val (u := .agg (dv x.r x.n)) (by rfl) (by first | (go_simp; done) | (go_simp; with_reducible rfl) | (go_simp; rfl)) (fun W' _ => rfl)
        try simp only [Act.put, List.setIfInBounds_toArray, List.set_cons_zero, List.set_cons_succ]
        refine RelO.next (k' := 9) rfl (fun W gW hF => ?_) ?_
        focus
          obtain ⟨h1, h7, _⟩ := hF
          have q1 : ∃ z, (val 1) = z ∧ DL W z (m.map SibI.d) := h1 _ (Frm.refl _ W)
          obtain ⟨x15, e1, o15⟩ := q1
          have e7 : val 7 = .agg (dv x.r x.n) := h7 _ (Frm.refl _ W)
          try simp only [e7]
          try simp only [e1]
          try simp only [tupAt]
          refine OpOK.call (by rfl) ?_ ((rin_any x15 (m.map SibI.d) x.d W o15).mono ?_)
          · go_simp
            exact ⟨rfl, rfl⟩
          · rintro e W1 ⟨he, g1⟩
            rw [HQ.out] at he
            subst he
            exact ⟨_, rfl, g1, fun W2 _ => rfl⟩
        try simp only [Act.put, List.setIfInBounds_toArray, List.set_cons_zero, List.set_cons_succ]
        refine RelO.next (k' := 10) rfl (fun W gW hF => ?_) ?_
        focus
          obtain ⟨h8, _⟩ := hF
          have e8 : val 8 = .bool q := h8 _ (Frm.refl _ W)
          try simp only [e8]
          try simp only [tupAt]
          refine OpOK.val (u := .bool (!q)) (by rfl) ?_ (fun W' _ => rfl)
          try simp only [e8]
          try simp only [tupAt]
          first | (go_simp; done) | (go_simp; with_reducible rfl) | (go_simp; rfl)
        try simp only [Act.put, List.setIfInBounds_toArray, List.set_cons_zero, List.set_cons_succ]
        exact RelO.nil
      intro val W gW hF
      obtain ⟨h0, h1, h2, h3, h4, h5, h6, h7, h8, h9, _⟩ := hF
      have e0 : val 0 = rg h vm := h0 _ (Frm.refl _ W)
      have q1 : ∃ z, (val 1) = z ∧ DL W z (m.map SibI.d) := h1 _ (Frm.refl _ W)
      obtain ⟨x15, e1, o15⟩ := q1
      have e2 : val 2 = .pointer (some ⟨N, 8, none⟩) := h2 _ (Frm.refl _ W)
      have e3 : val 3 = .slice (some ⟨g, off, none⟩) n cap := h3 _ (Frm.refl _ W)
      have e4 : val 4 = .int .i64 (k : Int) := h4 _ (Frm.refl _ W)
      have e5 : val 5 = .pointer (some ⟨g, off + k * 3, none⟩) := h5 _ (Frm.refl _ W)
      have e6 : val 6 = .pointer (some ⟨g, off + k * 3, none⟩) := h6 _ (Frm.refl _ W)
      have e7 : val 7 = .agg (dv x.r x.n) := h7 _ (Frm.refl _ W)
      have e8 : val 8 = .bool q := h8 _ (Frm.refl _ W)
      have e9 : val 9 = .bool (!q) := h9 _ (Frm.refl _ W)
      clear h0 h1 h2 h3 h4 h5 h6 h7 h8 h9
      simp only [aO, Act.put, List.setIfInBounds_toArray, List.set_cons_zero, List.set_cons_succ, Nat.reduceAdd]
      try simp only [e9]
      try simp only [e8]
      try simp only [e7]
      try simp only [e6]
      try simp only [e5]
      try simp only [e4]
      try simp only [e3]
      try simp only [e2]
      try simp only [e1]
      try simp only [e0]
      try simp only [tupAt]
      refine wpTail.doneN ?_
      refine hK _ _ ?_
      have gD := D.trans gW
      clear gW D hK e0 e1 e2 e3 e4 e5 e6 e7 e8 e9 o15
      obtain ⟨w2, hw2⟩ : ∃ w2, w2 = W := ⟨_, rfl⟩
      rw [← hw2] at gD ⊢
      clear hw2
      obtain ⟨x0, x1, x2⟩ := HX.out w2 gD
      have c8 := (HB.out w2 gD).cell 8 rfl
      have hO2 := HO.out.keep gD (fun _ _ h => h)
      have hF2 := hF.trans gD
      cases q with
      | true =>
        have HNX := Lib.hid (show (l.take (k + 1)).filter (fun x => !decide (x.d ∈ m.map SibI.d)) = (l.take k).filter (fun x => !decide (x.d ∈ m.map SibI.d)) by rw [HTK.out]; simp only [List.filter_cons, List.filter_nil, HQ.out]; simp)
        clear HTK HX HB HO
        go_wp2_with fail
        go_roundw
        case rel => exact ⟨k + 1, by omega, by go_num, by rw [HNX.out]; exact hO2, HNw.out, hF2⟩
        case measure => simp [intOf]; omega
      | false =>
        have HNX := Lib.hid (show (l.take (k + 1)).filter (fun x => !decide (x.d ∈ m.map SibI.d)) = (l.take k).filter (fun x => !decide (x.d ∈ m.map SibI.d)) ++ [x] by rw [HTK.out]; simp only [List.filter_cons, List.filter_nil, HQ.out]; simp)
        have f1 := (Frm.refl (fun _ => False) w2).alloc (.cells #[.int .u8 x.r, .int .u32 x.n, .string (bs x.s)] 105)
        obtain ⟨v', w3, hrun, hown, hgr, hnew⟩ := append_rsibs _ _ _ _ [x] (hO2.keep f1 (fun _ _ h => h)) (Sl.one w2 105 x) (by have := hfl; rw [List.length_singleton]; omega)
        rw [← HNX.out] at hown
        have HT := Lib.hid (show ∀ g, v'.ownBlock = some g → w1.heap.size ≤ g from fun g e => (hnew g e).elim (fun e => HNw.out g e) (fun e => by have := hF2.size; simp at e; omega))
        have HF := Lib.hid (show Frm (fun _ => False) w1 w3 from (hF2.trans f1).grown hgr (fun k hk e => by have := HNw.out k e; omega))
        have HO3 := Lib.hid hown
        have Hrun := Lib.hid hrun
        clear hrun hown hgr hnew hO2 HTK HX HB HO f1
        go_wp2_with (at_builtin; refine Lib.wpList_append_run _ rfl _ _ _ _ rfl _ _ rfl rfl _ _ Hrun.out ?_)
        go_roundw
        case rel => exact ⟨k + 1, by omega, by go_num, HO3.out, HT.out, HF.out⟩
        case measure => simp [intOf]; omega
    · obtain rfl : k = l.length := by omega
      go_wp2_with fail
      go_ret
      exact ⟨.slice a2 ((l.take l.length).filter (fun x => !decide (x.d ∈ m.map SibI.d))).length c2, rfl, by have h := HO.out; simpa only [List.take_length] using h, g0.trans hF, fun g e => by have := HNw.out g e; have := g0.size; omega⟩

set_option maxRecDepth 100000 in
set_option maxHeartbeats 2000000 in
theorem rsame_any (f g : Nat → Nat) (v1 v2 : Value) (l m : List SibI) (w : World) (h1 : SL w v1 l) (h2 : SL w v2 m) :
    Calls Try.prog 33 #[rg f v1, rg g v2] w fun e w' => e = .returned (.bool (eq8 f g && decide (l.map SibI.d = m.map SibI.d))) ∧ Frm (fun _ => False) w w' := by
  have E := fREq f g (eq8 f g) rfl
  obtain ⟨a, cap, rfl, hc1, hc2⟩ := h1.slice
  obtain ⟨b, capb, rfl, hd1, hd2⟩ := h2.slice
  unfold maxLen at hc2 hd2
  have g0 : Frm (fun _ => False) w ((w.alloc (.cells (rgc f (.slice a l.length cap)) 47)).alloc (.cells (rgc g (.slice b m.length capb)) 47)) := ((Frm.refl _ w).alloc _).alloc _
  have b0 : Blk ((w.alloc (.cells (rgc f (.slice a l.length cap)) 47)).alloc (.cells (rgc g (.slice b m.length capb)) 47)) w.heap.size 47 (rgc f (.slice a l.length cap)) := (Blk.alloc w _ _).old _
  have b1 : Blk ((w.alloc (.cells (rgc f (.slice a l.length cap)) 47)).alloc (.cells (rgc g (.slice b m.length capb)) 47)) (w.heap.size + 1) 47 (rgc g (.slice b m.length capb)) := Blk.at1 w _ _ _
  generalize eq8 f g = p at *
  go_enter Try.func33, Try.ntmps33
  go_upto_region 1 with fail
  generalize (w.alloc (.cells (rgc f (.slice a l.length cap)) 47)).alloc (.cells (rgc g (.slice b m.length capb)) 47) = w1 at *
  generalize w.heap.size = N at *
  have lf := load_rctx b0
  have lg := load_rctx b1
  have c8 := b0.cell 8 rfl
  have c9 := b1.cell 8 rfl
  have h1 := h1.keepF g0
  have h2 := h2.keepF g0
  cases p with
  | false =>
    go_wp2_with (first
      | ((with_reducible refine wpl_load rfl _ rfl ?_ lf ?_); (focus rfl))
      | ((with_reducible refine wpl_load rfl _ rfl ?_ lg ?_); (focus rfl)))
    go_ret
    exact ⟨rfl, g0⟩
  | true =>
    by_cases hl : l.length = m.length
    · have hli : ((l.length : Int) != (m.length : Int)) = false := by simp; omega
      have HL := Lib.hid hl
      clear hl
      go_wp2_with (first
        | ((with_reducible refine wpl_load rfl _ rfl ?_ lf ?_); (focus rfl))
        | ((with_reducible refine wpl_load rfl _ rfl ?_ lg ?_); (focus rfl)))
      clear lf lg E
      have HB0 := Lib.hid b0
      have HB1 := Lib.hid b1
      clear b0 b1 c8 c9
      go_loopw [5] (fun i wr => ∃ k : Nat, k ≤ l.length ∧ i = .int .i64 k ∧ (∀ j (hj : j < l.length) (hj2 : j < m.length), j < k → l[j].d = m[j].d) ∧ Frm (fun _ => False) w1 wr) (fun i _ => l.length - (intOf i).toNat)
      case atStart => exact ⟨0, Nat.zero_le _, rfl, fun j _ _ h => by omega, Frm.refl _ _⟩
      case round =>
        obtain ⟨k, hk, rfl, hbef, f1⟩ := hrel
        have HB := Lib.hid hbef
        clear hbef
        have c8 := (HB0.out.keep f1 (fun h => h)).cell 8 rfl
        have c9 := (HB1.out.keep f1 (fun h => h)).cell 8 rfl
        by_cases hlt : k < l.length
        · have hlm : k < m.length := by rw [← HL.out]; exact hlt
          have hk0 : (0 : Int) ≤ (k : Int) := by omega
          have hki : (k : Int) < (l.length : Int) := by omega
          have hkm : (k : Int) < (m.length : Int) := by omega
          obtain ⟨g1, off, rfl, x0, x1, x2⟩ := (h1.keepF f1).cells k hlt
          obtain ⟨g2, off', rfl, y0, y1, y2⟩ := (h2.keepF f1).cells k hlm
          have hQ : ∀ W, (Op.equalIn 10000 48 (.agg (dv l[k].r l[k].n)) (.agg (dv m[k].r m[k].n))).run Try.prog W = .ok (decide (l[k].d = m[k].d)) W := fun W => run_eq_rdot l[k].d m[k].d W
          obtain ⟨q1, hq1⟩ : ∃ q1, decide (l[k].d = m[k].d) = q1 := ⟨_, rfl⟩
          rw [hq1] at hQ
          have HQ1 := Lib.hid hq1
          clear hq1
          go_upto_region 6 with fail
          go_quiet (fail)
          have f2 : Frm (fun _ => False) w1 (wr.drewN nq) := f1.trans ((Frm.refl _ wr).drewN nq)
          cases q1 with
          | true =>
            go_wp2_with fail
            go_roundw
            case rel =>
              refine ⟨k + 1, by omega, by go_num, fun j hj hj2 hjk => ?_, f2⟩
              by_cases e : j = k
              · subst e; exact of_decide_eq_true HQ1.out
              · exact HB.out j hj hj2 (by omega)
            case measure => simp [intOf]; omega
          | false =>
            go_wp2_with fail
            go_ret
            refine ⟨?_, g0.trans f2⟩
            have hne : ¬ (l.map SibI.d = m.map SibI.d) := fun e => by
              refine of_decide_eq_false HQ1.out ?_
              have e2 := congrArg (fun z => z[k]?) e
              simpa [hlt, hlm] using e2
            rw [decide_eq_false hne]; rfl
        · obtain rfl : k = l.length := by omega
          have hnot : ¬ ((l.length : Int) < (m.length : Int)) := by have := HL.out; omega
          go_wp2_with fail
          go_ret
          refine ⟨?_, g0.trans f1⟩
          have he : l.map SibI.d = m.map SibI.d := by
            apply List.ext_getElem (by simpa using HL.out)
            intro j hj hj2
            simp only [List.length_map] at hj hj2
            simpa using HB.out j hj hj2 hj
          rw [decide_eq_true he]; rfl
    · have hli : ((l.length : Int) != (m.length : Int)) = true := by simp; omega
      have hne : ¬ (l.map SibI.d = m.map SibI.d) := fun e => hl (by simpa using congrArg List.length e)
      have HN := Lib.hid hne
      clear hl hne
      go_wp2_with (first
        | ((with_reducible refine wpl_load rfl _ rfl ?_ lf ?_); (focus rfl))
        | ((with_reducible refine wpl_load rfl _ rfl ?_ lg ?_); (focus rfl)))
      go_ret
      exact ⟨by rw [decide_eq_false HN.out]; rfl, g0⟩
end Go.Proofs.Ytmdmkcofafhlcaa

