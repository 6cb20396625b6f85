/- What RegionTorn notes of a region whose line may be cut, and how it goes on. Of no program. No condition. -/
import Derived.Test.YtfbaleomhghjeaaGreatRgOn
import Derived.Test.YtfbaleomhghjeaaGreatDvR
section
namespace Go.Proofs.YtfbaleomhghjeaaGreat
open Go.RowKit Go.Shelf

/-- All groups (gs), how many of them are sure, what was sealed last (sl), what was to be sealed (gens), is it open (op)? -/
def TS (R : RV) (L : LV) (gs : List (List UInt8)) (sure sl : Nat) (gens : List Nat) (op : Bool) : Prop :=
  R.at_ = 64 ∧ R.n = 64 ∧ ∃ fc, sure ≤ gs.length ∧ nb (gs.take sure) ≤ fc ∧
    ((StR R L gs fc sl ∧ gens = [] ∧ op = false) ∨ ∃ G : Nat → Prop, DdR R L gs fc G ∧ ((gens = [] ∧ op = false ∧ ∀ x, G x → x = sl) ∨ ∃ g, gens = [g] ∧ op = true ∧ ∀ x, G x → x = 0 ∨ x = sl ∨ x = g))
/-- The line is as it was, but for its acts. -/
structure SameL (L L' : LV) : Prop where
  P : L'.P = L.P
  cs : L'.cs = L.cs
  acts : L'.acts ≤ L.acts + 65
theorem SameL.refl (L : LV) : SameL L L := ⟨rfl, rfl, Nat.le_add_right _ _⟩
theorem SameL.seq (L : LV) (l : List (DV → DV)) (hl : l.length ≤ 65) (hn : ∀ F ∈ l, ∀ D : DV, (F D).n = D.n) : SameL L (L.seq l).1 := by
  have h := LV.seq_same l L hn
  exact ⟨h.1, h.2.2.2.1, by have := h.2.1; omega⟩
section
variable {R : RV} {L : LV} {gs : List (List UInt8)} {sure sl : Nat} {gens : List Nat} {op : Bool}
theorem ts_take {s : List UInt8} (h : sure ≤ gs.length) : (gs ++ [s]).take sure = gs.take sure := List.take_append_of_le_length h
theorem ts_ap (h : TS R L gs sure sl gens op) (s : List UInt8) : ∃ R' L' e, apR R L s = (R', L', e) ∧ SameL L L' ∧
    (((e = 0 ∨ e = 8) ∧ gens = [] ∧ TS R' L' (gs ++ [s]) sure sl gens op) ∨ ((e = 7 ∨ e = 17) ∧ TS R' L' gs sure sl gens op)) := by
  obtain ⟨h1, h2, fc, h3, h4, h5⟩ := h
  have hlen : sure ≤ (gs ++ [s]).length := by rw [List.length_append]; omega
  have ht : nb ((gs ++ [s]).take sure) ≤ fc := by rw [ts_take h3]; exact h4
  rcases h5 with ⟨hs, hg, ho⟩ | ⟨G, hd, hr⟩
  · have hsame : needs s.length ≤ R.left → SameL L (L.seq (wrs (R.at_ + 1 + R.used) (blks (R.used + 1) s))).1 := fun hf =>
      SameL.seq L _ (by rw [wrs_len, blks_len]; unfold RV.left at hf; omega) (fun F hF => wrs_n _ _ F hF)
    rcases apR_st hs s with ⟨_, ha⟩ | ⟨hf, L', ha, hL, hs'⟩ | ⟨hf, L', ha, hL, hd'⟩
    · exact ⟨_, _, _, ha, SameL.refl L, .inr ⟨.inl rfl, h1, h2, fc, h3, h4, .inl ⟨hs, hg, ho⟩⟩⟩
    · exact ⟨_, _, _, ha, by rw [hL]; exact hsame hf, .inl ⟨.inl rfl, hg, h1, h2, fc, hlen, ht, .inl ⟨hs', hg, ho⟩⟩⟩
    · refine ⟨_, _, _, ha, ?_, .inl ⟨.inr rfl, hg, h1, h2, fc, hlen, ht, .inr ⟨_, hd', .inl ⟨hg, ho, fun x hx => hx⟩⟩⟩⟩
      have e : (apR R L s).2.1 = (L.seq (wrs (R.at_ + 1 + R.used) (blks (R.used + 1) s))).1 := by
        unfold apR
        rw [hs.bad, if_neg Bool.false_ne_true, if_neg (by omega)]
        split <;> rfl
      rw [ha] at e
      have e : L' = _ := e
      rw [e]; exact hsame hf
  · exact ⟨_, _, _, hd.ap s, SameL.refl L, .inr ⟨.inr rfl, h1, h2, fc, h3, h4, .inr ⟨G, hd, hr⟩⟩⟩
theorem ts_fl (h : TS R L gs sure sl gens op) : ∃ R' L' e, flR R L = (R', L', e) ∧ SameL L L' ∧
    ((e = 0 ∧ TS R' L' gs gs.length sl gens op) ∨ ((e = 8 ∨ e = 17) ∧ TS R' L' gs sure sl gens op)) := by
  obtain ⟨h1, h2, fc, h3, h4, h5⟩ := h
  rcases h5 with ⟨hs, hg, ho⟩ | ⟨G, hd, hr⟩
  · have hsame : SameL L (L.seq [DV.flush]).1 := SameL.seq L _ (by decide) (fun F hF D => by rw [List.mem_singleton.1 hF]; rfl)
    have e : (flR R L).2.1 = (L.seq [DV.flush]).1 := by unfold flR; rw [hs.bad, if_neg Bool.false_ne_true]
    rcases flR_st hs with ⟨L', ha, hL, hs'⟩ | ⟨L', ha, hL, hd'⟩
    · rw [ha] at e
      have e : L' = _ := e
      exact ⟨_, _, _, ha, by rw [e]; exact hsame, .inl ⟨rfl, h1, h2, nb gs, Nat.le_refl _, by rw [List.take_length]; exact Nat.le_refl _, .inl ⟨hs', hg, ho⟩⟩⟩
    · rw [ha] at e
      have e : L' = _ := e
      exact ⟨_, _, _, ha, by rw [e]; exact hsame, .inr ⟨.inl rfl, h1, h2, fc, h3, h4, .inr ⟨_, hd', .inl ⟨hg, ho, fun x hx => hx⟩⟩⟩⟩
  · exact ⟨_, _, _, hd.fl, SameL.refl L, .inr ⟨.inr rfl, h1, h2, fc, h3, h4, .inr ⟨G, hd, hr⟩⟩⟩
theorem ts_sl (h : TS R L gs sure sl gens op) {g : Nat} (hg0 : g ≠ 0) (hgl : g < 4294967296) : ∃ R' L' e, slR R L g = (R', L', e) ∧ SameL L L' ∧
    ((e = 0 ∧ TS R' L' gs gs.length g [] false) ∨ (e = 8 ∧ gens = [] ∧ TS R' L' gs sure sl [g] true) ∨ (e = 17 ∧ TS R' L' gs sure sl gens op)) := by
  obtain ⟨h1, h2, fc, h3, h4, h5⟩ := h
  rcases h5 with ⟨hs, hg, ho⟩ | ⟨G, hd, hr⟩
  · have hsame : SameL L (L.seq [wrD R.at_ (hdB g), DV.flush]).1 := SameL.seq L _ (show 2 ≤ 65 by decide) (fun F hF D => by
      rcases List.mem_cons.1 hF with rfl | hF
      · exact writeTo_n D _ _
      · rw [List.mem_singleton.1 hF]; rfl)
    have e : (slR R L g).2.1 = (L.seq [wrD R.at_ (hdB g), DV.flush]).1 := by unfold slR; rw [if_neg hg0, hs.bad, if_neg Bool.false_ne_true]
    rcases slR_st hs hg0 hgl with ⟨L', ha, hL, hs'⟩ | ⟨L', ha, hL, hd'⟩
    · rw [ha] at e
      have e : L' = _ := e
      exact ⟨_, _, _, ha, by rw [e]; exact hsame, .inl ⟨rfl, h1, h2, nb gs, Nat.le_refl _, by rw [List.take_length]; exact Nat.le_refl _, .inl ⟨hs', rfl, rfl⟩⟩⟩
    · rw [ha] at e
      have e : L' = _ := e
      exact ⟨_, _, _, ha, by rw [e]; exact hsame, .inr (.inl ⟨rfl, hg, h1, h2, fc, h3, h4, .inr ⟨_, hd', .inr ⟨g, rfl, rfl, fun x hx => hx⟩⟩⟩)⟩
  · exact ⟨_, _, _, hd.sl hg0, SameL.refl L, .inr (.inr ⟨rfl, h1, h2, fc, h3, h4, .inr ⟨G, hd, hr⟩⟩)⟩
theorem ts_end (h : TS R L gs sure sl gens op) {L' : LV} (hdn : L'.down = false) (hD : L'.D = L.blow.D) : ∃ g m, rdR L' 64 64 = (g, gs.take m, 0) ∧ sure ≤ m ∧ m ≤ gs.length ∧
    ((op = false ∧ g = sl) ∨ (op = true ∧ ∃ g', gens = [g'] ∧ (g = 0 ∨ g = sl ∨ g = g'))) := by
  obtain ⟨h1, h2, fc, h3, h4, h5⟩ := h
  rcases h5 with ⟨hs, hg, ho⟩ | ⟨G, hd, hr⟩
  · obtain ⟨g, m, hG, hm, hall, hrd⟩ := hs.blow.read (by show 2 ≤ R.n; omega) hdn hD
    have hrd : rdR L' (R.at_ : Int) (R.n : Int) = _ := hrd
    rw [h1, h2] at hrd
    exact ⟨g, m, hrd, hall sure h3 h4, hm, .inl ⟨ho, hG⟩⟩
  · obtain ⟨g, m, hG, hm, hall, hrd⟩ := hd.blow.read (by omega) hdn hD
    rw [h1, h2] at hrd
    refine ⟨g, m, hrd, hall sure h3 h4, hm, ?_⟩
    rcases hr with ⟨_, ho, hx⟩ | ⟨g', hg', ho, hx⟩
    · exact .inl ⟨ho, hx g hG⟩
    · exact .inr ⟨ho, g', hg', hx g hG⟩
theorem ts_n (h : TS R L gs sure sl gens op) : gs.length ≤ 63 := by
  obtain ⟨h1, h2, fc, h3, h4, h5⟩ := h
  have hk : gs.length ≤ nb gs := by
    clear h3 h4 h5
    induction gs with
    | nil => exact Nat.le_refl _
    | cons s r ih => have := needs_pos s.length; show r.length + 1 ≤ needs s.length + nb r; omega
  have : (blksAll 1 gs).length + 1 ≤ R.n := by
    rcases h5 with ⟨hs, _⟩ | ⟨G, hd, _⟩
    · exact hs.inv.len
    · exact hd.inv.len
  rw [blksAll_len] at this
  omega
end
end Go.Proofs.YtfbaleomhghjeaaGreat
end
section
namespace Go.Proofs.YtfbaleomhghjeaaGreat
open Go.RowKit Go.Shelf

structure A5 where
  k : Nat
  s : List UInt8
  g : Nat
  q : Int
  n : Int
  hk : k < 256
  hs : s.length ≤ 9223372036854775807
  hg : g < 4294967296
  hq : Z64 q
  hn : Z64 n
def a5c (x : A5) : List Value := [.int .u8 (x.k : Nat), .string (bs x.s), .int .u32 (x.g : Nat), .int .i64 x.q, .int .i64 x.n]
theorem a5c_len (x : A5) : (a5c x).length = 5 := rfl
def A5L (w : World) (v : Value) (l : List A5) : Prop := Sl w 5 v l.length (flat a5c l)
section
variable {w w' : World} {v : Value} {l : List A5}
theorem A5L.keepF (h : A5L w v l) (hf : Frm (fun _ => False) w w') : A5L w' v l := Sl.keepF h hf
theorem A5L.slice (h : A5L w v l) : ∃ a cap, v = .slice a l.length cap ∧ l.length ≤ cap ∧ cap ≤ maxLen := Sl.slice h
theorem A5L.elem {a : Option Addr} {cap : Nat} (h : A5L w (.slice a l.length cap) l) (k : Nat) (hk : k < l.length) : ∃ g off, a = some ⟨g, off, none⟩ ∧ g < w.heap.size ∧ w.cell? ⟨g, off + k * 5, none⟩ = some (.int .u8 (l[k].k : Nat)) ∧ w.cell? ⟨g, off + k * 5 + 1, none⟩ = some (.string (bs l[k].s)) ∧
    w.cell? ⟨g, off + k * 5 + 2, none⟩ = some (.int .u32 (l[k].g : Nat)) ∧ w.cell? ⟨g, off + k * 5 + 3, none⟩ = some (.int .i64 l[k].q) ∧ w.cell? ⟨g, off + k * 5 + 4, none⟩ = some (.int .i64 l[k].n) := by
  obtain ⟨g, off, rfl, h0, hc⟩ := Sl.elem a5c a5c_len h k hk (by omega)
  exact ⟨g, off, rfl, h0, hc 0 (by omega), by rw [Nat.add_assoc]; exact hc 1 (by omega), by rw [Nat.add_assoc]; exact hc 2 (by omega), by rw [Nat.add_assoc]; exact hc 3 (by omega), by rw [Nat.add_assoc]; exact hc 4 (by omega)⟩
end
theorem ret_b13 {x y : Bool} (h : x = y) : Ending.returned (.bool x) = .returned (.bool y) := by rw [h]
/-- May these acts be gone through, with so many bytes left? -/
def fewB (m : Nat) : List A5 → Bool
  | [] => true
  | x :: r => decide (x.s.length ≤ 5000) && decide (x.s.length ≤ m) && fewB (m - x.s.length) r
def few5 (L : List A5) : Bool := fewB 20000 (L.take 60) && decide (L.length ≤ 50)
theorem fewB_all : ∀ (L : List A5) (m : Nat), fewB m L = true → ∀ x ∈ L, x.s.length ≤ 5000 := by
  intro L
  induction L with
  | nil => intro m _ x hx; cases hx
  | cons y r ih =>
    intro m h x hx
    unfold fewB at h
    simp only [Bool.and_eq_true, decide_eq_true_eq] at h
    rcases List.mem_cons.1 hx with rfl | hx
    · exact h.1.1
    · exact ih _ h.2 x hx
theorem few5_ok {L : List A5} (h : few5 L = true) : L.length ≤ 50 ∧ ∀ i (h : i < L.length), L[i].s.length ≤ 5000 := by
  unfold few5 at h
  simp only [Bool.and_eq_true, decide_eq_true_eq] at h
  refine ⟨h.2, fun i hi => fewB_all _ _ h.1 _ ?_⟩
  rw [List.take_of_length_le (by omega)]
  exact List.getElem_mem hi
set_option maxRecDepth 100000 in
set_option maxHeartbeats 2000000 in
theorem few13_any (v : Value) (L : List A5) (w : World) (h : A5L w v L) :
    Calls Tryz.prog 8 #[v] w fun e w' => e = .returned (.bool (few5 L)) ∧ w = w' := by
  obtain ⟨a, cap, rfl, h1, h2⟩ := h.slice
  have H3 := Lib.hid h
  clear h
  unfold maxLen at h2
  go_enter Tryz.func8, Tryz.ntmps8
  go_wp2
  go_loop [3, 4] (fun z i => ∃ k m : Nat, k ≤ L.length ∧ k ≤ 60 ∧ i = .int .i64 k ∧ z = .int .i64 m ∧ m ≤ 20000 ∧ fewB 20000 (L.take 60) = fewB m ((L.take 60).drop k)) (fun _ i => L.length - (intOf i).toNat)
  case atStart => exact ⟨0, 20000, Nat.zero_le _, by omega, rfl, rfl, Nat.le_refl _, rfl⟩
  case round =>
    obtain ⟨k, m, hk, hk60, rfl, rfl, hm, hall⟩ := hrel
    have Hall := Lib.hid hall
    clear hall
    by_cases hlt : k < L.length
    · obtain ⟨b, off, rfl, _, _, c1, _⟩ := H3.out.elem k hlt
      by_cases h60 : k < 60
      · have h60i : (k : Int) < 60 := by omega
        have hd : (L.take 60).drop k = L[k] :: (L.take 60).drop (k + 1) := by
          rw [← List.getElem_cons_drop (i := k) (by rw [List.length_take]; omega), List.getElem_take]
        have Hall := Lib.hid (show fewB 20000 (L.take 60) = (decide (L[k].s.length ≤ 5000) && decide (L[k].s.length ≤ m) && fewB (m - L[k].s.length) ((L.take 60).drop (k + 1))) by rw [Hall.out, hd]; rfl)
        clear hd
        obtain ⟨z, hz⟩ : ∃ z, L[k].s.length = z := ⟨_, rfl⟩
        have hze : ((bs L[k].s).size : Int) = (z : Int) := by rw [bs_size, hz]
        have hzl := L[k].hs
        rw [hz] at hzl Hall
        clear hz
        by_cases hs : z ≤ 5000
        · have hsz : ¬ (5000 : Int) < (z : Int) := by omega
          by_cases hs2 : z ≤ m
          · have hsz2 : ¬ (m : Int) < (z : Int) := by omega
            have hsub : IntKind.i64.wrap ((m : Int) - (z : Int)) = ((m - z : Nat) : Int) := by rw [IntWalk.i64_in _ (by omega)]; omega
            go_wp2
            go_round
            case rel => exact ⟨k + 1, m - z, by omega, by omega, by go_num, rfl, by omega, by rw [Hall.out, decide_eq_true hs, decide_eq_true hs2]; rfl⟩
            case measure => simp [intOf]; omega
          · have hsz2 : (m : Int) < (z : Int) := by omega
            go_wp2
            go_ret
            exact ⟨ret_b13 (by unfold few5; rw [Hall.out, decide_eq_false hs2, Bool.and_false]; rfl), rfl⟩
        · have hsz : (5000 : Int) < (z : Int) := by omega
          go_wp2
          go_ret
          exact ⟨ret_b13 (by unfold few5; rw [Hall.out, decide_eq_false hs]; rfl), rfl⟩
      · have h60i : ¬ (k : Int) < 60 := by omega
        go_wp2
        go_ret
        have hL1 : ¬ (L.length : Int) ≤ 50 := by omega
        have hL2 : ¬ L.length ≤ 50 := by omega
        exact ⟨ret_b13 (by unfold few5; rw [decide_eq_false hL1, decide_eq_false hL2, Bool.and_false]), rfl⟩
    · obtain rfl : k = L.length := by omega
      go_wp2
      go_ret
      have hf : fewB 20000 (L.take 60) = true := by
        rw [Hall.out, List.drop_eq_nil_of_le (by rw [List.length_take]; omega)]; rfl
      exact ⟨ret_b13 (by unfold few5; rw [hf, Bool.true_and, decide_eq_decide]; omega), rfl⟩
end Go.Proofs.YtfbaleomhghjeaaGreat
end
