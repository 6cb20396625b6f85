/- What strings.Join and path.Text answer. No condition. -/
import Derived.Test.YtffhakomnkicoaaDoorNames
import Derived.Lib.Join
namespace Go.Proofs.YtffhakomnkicoaaDoor
open Go.RowKit Go.Shelf
attribute [local go_sem] Oper.semAt_some

/-- Texts, joined by a byte. -/
theorem join_any (v : Value) (l : List (List UInt8)) (c : UInt8) (w : World) (h : Strs w v l) (hn : l.length ≤ 1000000) (hb : (Lib.join l [c]).length ≤ 1000000) :
    Calls Tryd.prog 46 #[v, .string ⟨#[c]⟩] w fun e w' => e = .returned (.string (bs (Lib.join l [c]))) ∧ Fr w w' := by
  obtain ⟨a, cap, rfl, hc1, hc2⟩ := h.slice
  by_cases h0 : l = []
  · subst h0
    exact (Tryd.strings_Join_none a cap ⟨#[c]⟩ w).mono fun e w' ⟨h1, h2⟩ => ⟨h1, by rw [h2]; exact Frm.refl _ _⟩
  · have hp : 0 < l.length := by
      rcases Nat.eq_zero_or_pos l.length with e | e
      · exact absurd (List.eq_nil_of_length_eq_zero e) h0
      · exact e
    obtain ⟨g, off, rfl, hg, _⟩ := h.at 0 hp
    have hm : (l.map bs).map (fun s : ByteArray => s.data.toList) = l := by
      rw [List.map_map]
      exact List.map_id l
    have hj := Tryd.strings_Join g off cap (l.map bs) ⟨#[c]⟩ w (fun j x hx => ?_) hg (by rw [List.length_map]; omega) (by rw [List.length_map]; exact hc1) (by rw [hm]; show (Lib.join l [c]).length ≤ _; omega)
    · rw [hm, List.length_map] at hj
      exact hj.mono fun e w' ⟨h1, h2⟩ => ⟨h1, fr_below h2⟩
    · have hjl : j < l.length := by
        rcases Nat.lt_or_ge j l.length with e | e
        · exact e
        · rw [List.getElem?_eq_none (by simpa using e)] at hx; cases hx
      obtain ⟨g', off', e, _, hc⟩ := h.at j hjl
      cases e
      rw [hc]
      simp [hjl] at hx
      rw [hx]
theorem join_txt (l : List (List UInt8)) : 47 :: Lib.join l [47] = txt l := by
  unfold txt
  cases l with
  | nil => rfl
  | cons s r =>
    rw [if_neg (by simp)]
    have h : ∀ (r : List (List UInt8)) (s : List UInt8), Lib.join (s :: r) [47] = s ++ r.flatMap (47 :: ·) := by
      intro r
      induction r with
      | nil => intro s; rw [Lib.join_one]; simp
      | cons t r ih =>
        intro s
        have : Lib.join (s :: t :: r) [47] = s ++ [47] ++ Lib.join (t :: r) [47] := by simp [Lib.join, List.intercalate]
        rw [this, ih]
        simp
    rw [h r s]
    rfl
theorem join_len {l : List (List UInt8)} (h : good l) : (Lib.join l [47]).length ≤ 36 := by
  have h1 := txt_len h
  rw [← join_txt] at h1
  simp at h1
  omega
/-- Between two rounds of Text: these were names. -/
structure TxI (w : World) (pre : List (List UInt8)) (W : World) : Prop where
  ok : ∀ s ∈ pre, chk s = 0
  res : Blk W w.heap.size 9 #[.string ⟨#[]⟩]
  err : Blk W (w.heap.size + 1) 24 #[.int .i64 0]
  frm : Fr w W
/-- Where a round of Text has left: one is none. -/
structure TxX (w : World) (pre : List (List UInt8)) (W : World) : Prop where
  bad : ∃ s ∈ pre, chk s ≠ 0
  res : Blk W w.heap.size 9 #[.string ⟨#[]⟩]
  err : Blk W (w.heap.size + 1) 24 #[.int .i64 4]
  frm : Fr w W
theorem TxI.own (w : World) (B : Nat) (hB : w.heap.size ≤ B) : OwnFrom B (TxI w) := fun _ _ _ _ h hg hr => by
  have hr2 := fun r e => (hr r e).2
  exact ⟨h.ok, h.res.turned hg hr2, h.err.turned hg hr2, h.frm.turned hB hg hr⟩
theorem TxX.own (w : World) (B : Nat) (hB : w.heap.size ≤ B) : OwnFrom B (TxX w) := fun _ _ _ _ h hg hr => by
  have hr2 := fun r e => (hr r e).2
  exact ⟨h.bad, h.res.turned hg hr2, h.err.turned hg hr2, h.frm.turned hB hg hr⟩
theorem TxI.step {w W W1 : World} {pre : List (List UInt8)} {x : List UInt8} (hv : TxI w pre W) (n0 : Nat) (f1 : Fr W W1) (hx : chk x = 0) : KeepsOthers W W1 ∧ (n0 ≤ W.heap.size → kept n0 W W1) ∧ TxI w (pre ++ [x]) W1 := by
  refine ⟨f1.others fun _ _ h => h.elim, fun hn k hk => f1.block k (by omega) (fun h => h), fun s hs => ?_, hv.res.keep f1 (fun h => h), hv.err.keep f1 (fun h => h), hv.frm.trans f1⟩
  rcases List.mem_append.1 hs with hs | hs
  · exact hv.ok s hs
  · obtain rfl : s = x := by simpa using hs
    exact hx
theorem TxI.stop {w W W1 : World} {pre : List (List UInt8)} {x : List UInt8} (hv : TxI w pre W) (f1 : Fr W W1) (hx : chk x ≠ 0) :
    KeepsOthers W ((W1.setCell ⟨w.heap.size, 0, none⟩ (.string ⟨#[]⟩)).setCell ⟨w.heap.size + 1, 0, none⟩ (.int .i64 4)) ∧ Code.ret = Code.ret ∧ TxX w (pre ++ [x]) ((W1.setCell ⟨w.heap.size, 0, none⟩ (.string ⟨#[]⟩)).setCell ⟨w.heap.size + 1, 0, none⟩ (.int .i64 4)) := by
  have hX2 : Frm (fun k => k = w.heap.size ∨ k = w.heap.size + 1) W ((W1.setCell ⟨w.heap.size, 0, none⟩ (.string ⟨#[]⟩)).setCell ⟨w.heap.size + 1, 0, none⟩ (.int .i64 4)) :=
    ((f1.mono (fun _ _ h => h.elim)).setCell (p := ⟨w.heap.size, 0, none⟩) (fun _ => .inl rfl) _).setCell (p := ⟨w.heap.size + 1, 0, none⟩) (fun _ => .inr rfl) _
  refine ⟨hX2.others fun k o hk ho2 => ?_, rfl, ⟨x, by simp, hx⟩, ?_, ?_, ?_⟩
  · rcases hk with rfl | rfl
    · exact hv.res.isCells _ o rfl ho2
    · exact hv.err.isCells _ o rfl ho2
  · exact ((hv.res.keep f1 (fun h => h)).set 0 _).other (p := ⟨w.heap.size + 1, 0, none⟩) (by simp) _
  · exact ((hv.err.keep f1 (fun h => h)).other (p := ⟨w.heap.size, 0, none⟩) (by simp) _).set 0 _
  · exact ((hv.frm.trans f1).setCell (p := ⟨w.heap.size, 0, none⟩) (fun h => absurd h (by simp)) _).setCell (p := ⟨w.heap.size + 1, 0, none⟩) (fun h => absurd h (by simp)) _
/-- Text's answer. -/
def TextTo (X : List UInt8 × Nat) (w : World) (e : Ending) (w' : World) : Prop := e = .returned (.tuple #[.string (bs X.1), .int .i64 X.2]) ∧ Fr w w'

set_option maxRecDepth 100000 in
set_option maxHeartbeats 4000000 in
theorem text_any (v : Value) (l : List (List UInt8)) (w : World) (h : Strs w v l) (hn : l.length ≤ 1000) :
    Calls Tryd.prog 21 #[v] w (TextTo (text l) w) := by
  obtain ⟨a, cap, rfl, hc1, hc2⟩ := h.slice
  have hgb : ∀ g, blkOf (.slice a l.length cap) = some g → 0 < l.length → g < w.heap.size := fun g hg hp => by
    obtain ⟨g', off, rfl, hl, _⟩ := h.at 0 hp
    cases hg; exact hl
  obtain ⟨X, hX⟩ : ∃ X, text l = X := ⟨_, rfl⟩
  rw [hX]
  have HX := Lib.hid hX
  clear hX
  unfold maxLen at hc2
  refine (callsIn_wide (n := 9)).1 ?_
  refine callsIn_of_wp_marks Tryd.func21 rfl trivial ?_ rfl
  simp only [Tryd.ntmps21, List.size_toArray, List.length_cons, List.length_nil, Nat.reduceAdd, Nat.reduceSub, Array.replicate_succ, Array.replicate_zero, List.push_toArray, List.append_toArray, List.nil_append, List.cons_append]
  refine wpIn_wide.2 ?_
  refine Code.wp_mono calm_le ?_
  go_wp2_with fail
  refine (values_any a l.length cap _).mono ?_
  rintro e w2 ⟨rfl, rfl⟩
  go_wp2_with fail
  have hBn := Blk.alloc ((w.alloc (.cells #[.string ⟨#[]⟩] 9)).alloc (.cells #[.int .i64 0] 24)) 23 #[.slice a l.length cap]
  have g0 : Fr w (((w.alloc (.cells #[.string ⟨#[]⟩] 9)).alloc (.cells #[.int .i64 0] 24)).alloc (.cells #[.slice a l.length cap] 23)) := (((Frm.refl _ w).alloc _).alloc _).alloc _
  have hI0 : TxI w [] (((w.alloc (.cells #[.string ⟨#[]⟩] 9)).alloc (.cells #[.int .i64 0] 24)).alloc (.cells #[.slice a l.length cap] 23)) := by
    refine ⟨fun s hs => (by cases hs), ((Blk.alloc w _ _).old _).old _, ?_, g0⟩
    have := (Blk.alloc (w.alloc (.cells #[.string ⟨#[]⟩] 9)) 24 #[.int .i64 0]).old (.cells #[.slice a l.length cap] 23)
    simpa using this
  have hsz : ((w.alloc (.cells #[.string ⟨#[]⟩] 9)).alloc (.cells #[.int .i64 0] 24)).heap.size = w.heap.size + 1 + 1 := by simp
  rw [hsz] at hBn
  have hy := h.keepF g0
  have hwy := g0.size
  generalize (((w.alloc (.cells #[.string ⟨#[]⟩] 9)).alloc (.cells #[.int .i64 0] 24)).alloc (.cells #[.slice a l.length cap] 23)) = wy at *
  clear hsz
  refine (wpIn_wide (n := 9)).1 ?_
  refine wpIn_rangeFunc_ownF rfl (by omega) (gf := 65) (lb := #[.pointer (some ⟨w.heap.size + 1 + 1, 0, none⟩)]) rfl trivial (enters_of Tryd.func65 (by kernel_rfl) rfl)
    (values_stops (w.heap.size + 1 + 1) w.heap.size _ l wy hBn hy hgb) kept.trans (kept.put hwy) (Below.refl _ _) (fun _ => rfl)
    (TxI w) (fun c pre W => c = .ret ∧ TxX w pre W) (TxI.own w _ hwy) (fun c => OwnFrom.and (fun _ _ _ _ e _ _ => e) (TxX.own w _ hwy)) hI0 ?a1 ?assign ?body ?done ?stop
  case assign =>
    intro l0 x W K hK
    gi_wp2
    exact hK
  case body =>
    rintro l0 pre x W hv _
    have hf := fun W => name_any x W
    by_cases hx : chk x = 0
    · have hd : decide (chk x = 0) = true := by simpa using hx
      rw [hd] at hf
      have Hf := Lib.hid hf
      have Hx := Lib.hid hx
      clear hf hd hx
      gi_wp2_with fail
      refine ⟨trivial, (CallsIn.inRound l0 (callsIn_wide.2 (Hf.out _))).mono ?_⟩
      rintro e W1 ⟨rfl, f1⟩
      gi_wp2
      have hst := hv.step w.heap.size f1 Hx.out
      exact ⟨hst.1, hst.2.1 hv.frm.size, hst.2.2⟩
    · have hd : decide (chk x = 0) = false := by simpa using hx
      rw [hd] at hf
      have Hf := Lib.hid hf
      have Hx := Lib.hid hx
      clear hf hd hx
      gi_wp2_with fail
      refine ⟨trivial, (CallsIn.inRound l0 (callsIn_wide.2 (Hf.out _))).mono ?_⟩
      rintro e W1 ⟨rfl, f1⟩
      have hr2 := hv.res.keep f1 (fun h => h)
      have he2 := hv.err.keep f1 (fun h => h)
      have cr := hr2.cell 0 rfl
      have fr := hr2.free 0
      have ce := he2.cell 0 rfl
      have fe := he2.free 0
      gi_wp2
      exact hv.stop f1 Hx.out
  case done =>
    rintro D xs W hD rfl hv hK
    have hDlt := (Array.getElem?_eq_some_iff.1 hK).1
    have hD2 : w.heap.size ≤ D := by omega
    by_cases hfew : 4 < xs.length
    · have hX : X = ([], 3) := by
        rw [← HX.out]; unfold text
        rw [if_neg (fun ⟨s, hs, e⟩ => e (hv.ok s hs)), if_pos hfew]
      have h4 : (4 : Int) < xs.length := by omega
      have hr2 := hv.res
      have he2 := hv.err
      have cr := hr2.cell 0 rfl
      have fr := hr2.free 0
      have ce := he2.cell 0 rfl
      have fe := he2.free 0
      clear hfew hBn hI0 HX
      go_wp2_with fail
      refine calm_ret ?_
      have hK' := (KeepsOthers.trans (KeepsOthers.setCell W ⟨w.heap.size, 0, none⟩ (.string ⟨#[]⟩)) (KeepsOthers.setCell _ ⟨w.heap.size + 1, 0, none⟩ (.int .i64 3))).same D _ hK rfl
      have hgp := grownBy_putObj' ((W.setCell ⟨w.heap.size, 0, none⟩ (.string ⟨#[]⟩)).setCell ⟨w.heap.size + 1, 0, none⟩ (.int .i64 3)) D (.deferred none)
      have hrow : ∀ q, some D = some q → ∃ o : Obj, ((W.setCell ⟨w.heap.size, 0, none⟩ (.string ⟨#[]⟩)).setCell ⟨w.heap.size + 1, 0, none⟩ (.int .i64 3)).heap[q]? = some o ∧ o.isCells = false := fun q e => by cases e; exact ⟨_, hK', rfl⟩
      have c0 := (((hr2.set 0 (.string ⟨#[]⟩)).other (p := ⟨w.heap.size + 1, 0, none⟩) (by simp) (.int .i64 3)).turned hgp hrow).cell 0 rfl
      have c1 := (((he2.other (p := ⟨w.heap.size, 0, none⟩) (by simp) (.string ⟨#[]⟩)).set 0 (.int .i64 3)).turned hgp hrow).cell 0 rfl
      have hf3 : Fr w _ := ((hv.frm.setCell (p := ⟨w.heap.size, 0, none⟩) (fun h => absurd h (by simp)) (.string ⟨#[]⟩)).setCell (p := ⟨w.heap.size + 1, 0, none⟩) (fun h => absurd h (by simp)) (.int .i64 3)).grown hgp (fun k hk e => by cases e; omega)
      refine ⟨by simp, .inl ⟨_, _, rfl, run_takeDeferred hK', ?_⟩⟩
      refine ⟨.tuple #[.string ⟨#[]⟩, .int .i64 3], by simp [results, Tryd.results21, go_sem, c0, c1], ?_⟩
      subst hX
      exact ⟨rfl, hf3⟩
    · have hg : good xs := ⟨hv.ok, by omega⟩
      have hX : X = (txt xs, 0) := by
        rw [← HX.out]; exact text_good hg
      have h4 : (xs.length : Int) ≤ 4 := by omega
      have hj := join_any (.slice a xs.length cap) xs 47 W (h.keepF hv.frm) (by omega) (by have := join_len hg; omega)
      have hls : (bs (Lib.join xs [47])).size ≤ 36 := join_len hg
      have hbt : (⟨#[47]⟩ : ByteArray) ++ bs (Lib.join xs [47]) = bs (txt xs) := by
        have e1 : (⟨#[47]⟩ : ByteArray) = bs [47] := rfl
        rw [e1, bs_append, ← join_txt]; rfl
      have ls : (⟨#[47]⟩ : ByteArray).size = 1 := rfl
      have Hj := Lib.hid hj
      have Hbt := Lib.hid hbt
      clear hj hbt hfew hBn hI0 HX hg
      generalize bs (Lib.join xs [47]) = J at *
      have z1 : ¬ 9223372036854775807 < 1 + J.size := by omega
      go_wp2_with fail
      refine Hj.out.mono ?_
      rintro e W1 ⟨rfl, f1⟩
      have hr2 := hv.res.keep f1 (fun h => h)
      have he2 := hv.err.keep f1 (fun h => h)
      have cr := hr2.cell 0 rfl
      have fr := hr2.free 0
      have ce := he2.cell 0 rfl
      have fe := he2.free 0
      have hK1 := (f1.block D hDlt (fun h => h)).trans hK
      go_wp2_with fail
      refine calm_ret ?_
      generalize (⟨#[47]⟩ : ByteArray) ++ J = T at *
      have hK' := (KeepsOthers.trans (KeepsOthers.setCell W1 ⟨w.heap.size, 0, none⟩ (.string T)) (KeepsOthers.setCell _ ⟨w.heap.size + 1, 0, none⟩ (.int .i64 0))).same D _ hK1 rfl
      have hgp := grownBy_putObj' ((W1.setCell ⟨w.heap.size, 0, none⟩ (.string T)).setCell ⟨w.heap.size + 1, 0, none⟩ (.int .i64 0)) D (.deferred none)
      have hrow : ∀ q, some D = some q → ∃ o : Obj, ((W1.setCell ⟨w.heap.size, 0, none⟩ (.string T)).setCell ⟨w.heap.size + 1, 0, none⟩ (.int .i64 0)).heap[q]? = some o ∧ o.isCells = false := fun q e => by cases e; exact ⟨_, hK', rfl⟩
      have c0 := (((hr2.set 0 (.string T)).other (p := ⟨w.heap.size + 1, 0, none⟩) (by simp) (.int .i64 0)).turned hgp hrow).cell 0 rfl
      have c1 := (((he2.other (p := ⟨w.heap.size, 0, none⟩) (by simp) (.string T)).set 0 (.int .i64 0)).turned hgp hrow).cell 0 rfl
      have hf3 : Fr w _ := (((hv.frm.trans f1).setCell (p := ⟨w.heap.size, 0, none⟩) (fun h => absurd h (by simp)) (.string T)).setCell (p := ⟨w.heap.size + 1, 0, none⟩) (fun h => absurd h (by simp)) (.int .i64 0)).grown hgp (fun k hk e => by cases e; omega)
      refine ⟨by simp, .inl ⟨_, _, rfl, run_takeDeferred hK', ?_⟩⟩
      refine ⟨.tuple #[.string T, .int .i64 0], by simp [results, Tryd.results21, go_sem, c0, c1], ?_⟩
      subst hX
      exact ⟨by rw [Hbt.out]; rfl, hf3⟩
  case stop =>
    rintro D c pre W hD hS ⟨rfl, hx⟩ hK
    have hgp := grownBy_putObj' W D (.deferred none)
    have hrow : ∀ q, some D = some q → ∃ o : Obj, W.heap[q]? = some o ∧ o.isCells = false := fun q e => by cases e; exact ⟨_, hK, rfl⟩
    have c0 := (hx.res.turned hgp hrow).cell 0 rfl
    have c1 := (hx.err.turned hgp hrow).cell 0 rfl
    have hf3 : Fr w _ := hx.frm.grown hgp (fun k hk e => by cases e; omega)
    have hX : X = ([], 4) := by
      obtain ⟨s, hs, e⟩ := hx.bad
      obtain ⟨t, ht⟩ := hS.1
      rw [← HX.out]; unfold text
      rw [if_pos ⟨s, by rw [← ht]; exact List.mem_append_left _ hs, e⟩]
    refine wpIn_wide.2 ?_
    go_wp2_with fail
    refine calm_ret ?_
    refine ⟨by simp, .inl ⟨_, _, rfl, run_takeDeferred hK, ?_⟩⟩
    refine ⟨.tuple #[.string ⟨#[]⟩, .int .i64 4], by simp [results, Tryd.results21, go_sem, c0, c1], ?_⟩
    subst hX
    exact ⟨rfl, hf3⟩
end Go.Proofs.YtffhakomnkicoaaDoor
