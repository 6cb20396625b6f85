/- The rules of a policy, and which one is for an age. No condition but that there are at most a million versions. -/
import Derived.Test.YtbmlfhiffooilaaKpE
namespace Go.Proofs.Ytbmlfhiffooilaa
open Go.RowKit Go.Shelf

/-- A rule: up to which age, and what it keeps. -/
structure RuI where
  up : Nat
  p : StI → Bool
abbrev RuV := RuI × Value
def ruc (x : RuV) : List Value := [.int .u32 (x.1.up : Int), x.2]
theorem ruc_len (x : RuV) : (ruc x).length = 2 := rfl
/-- What rules say of an age and a version. -/
def evalR (P : List RuI) (a : Nat) (s : StI) : Bool := match P.find? (fun r => decide (a ≤ r.up)) with
  | some r => r.p s
  | none => false
theorem evalR_nil (a : Nat) (s : StI) : evalR [] a s = false := rfl
theorem evalR_cons (r : RuI) (P : List RuI) (a : Nat) (s : StI) : evalR (r :: P) a s = if a ≤ r.up then r.p s else evalR P a s := by
  unfold evalR
  rw [List.find?_cons]
  by_cases h : a ≤ r.up
  · rw [if_pos h, decide_eq_true h]
  · rw [if_neg h, decide_eq_false h]
/-- Rules that are only read. -/
structure RuL (w : World) (v : Value) (P : List RuV) : Prop where
  blk : ∃ g, v = .slice (some ⟨g, 0, none⟩) P.length P.length ∧ Blk w g 59 (flat ruc P).toArray
  few : P.length ≤ 3
  to : ∀ x ∈ P, KeepsTo w x.2 x.1.p
theorem RuL.keepB {w w' : World} {v : Value} {P : List RuV} (h : RuL w v P) (g : FrB w w') : RuL w' v P := by
  obtain ⟨b, e, hb⟩ := h.blk
  exact ⟨⟨b, e, hb.keepFB (by decide) g⟩, h.few, fun x hx => (h.to x hx).keepB g⟩
theorem RuL.keepF {w w' : World} {v : Value} {P : List RuV} (h : RuL w v P) (g : Frm (fun _ => False) w w') : RuL w' v P := h.keepB (.of g)
theorem RuL.elem {w : World} {g : Nat} {P : List RuV} (h : RuL w (.slice (some ⟨g, 0, none⟩) P.length P.length) P) (k : Nat) (hk : k < P.length) : w.cell? ⟨g, k * 2, none⟩ = some (.int .u32 (P[k].1.up : Int)) ∧ w.cell? ⟨g, k * 2 + 1, none⟩ = some P[k].2 := by
  obtain ⟨b, e, hb⟩ := h.blk
  cases e
  have h0 := flat_at ruc ruc_len P k hk 0 (by omega)
  have h1 := flat_at ruc ruc_len P k hk 1 (by omega)
  rw [Nat.add_zero] at h0
  exact ⟨hb.cell (k * 2) (by simpa [ruc] using h0), hb.cell (k * 2 + 1) (by simpa [ruc] using h1)⟩
theorem RuL.made {w : World} {P : List RuV} {cs : Array Value} (hcs : cs.toList = flat ruc P) (hn : P.length ≤ 3) (h : ∀ x ∈ P, KeepsTo w x.2 x.1.p) :
    RuL (w.alloc (.cells cs 59)) (.slice (some ⟨w.heap.size, 0, none⟩) P.length P.length) P :=
  ⟨⟨_, rfl, by rw [← hcs]; exact Blk.alloc w _ _⟩, hn, fun x hx => (h x hx).keep ((Frm.refl _ _).alloc _)⟩

set_option maxRecDepth 100000 in
set_option maxHeartbeats 2000000 in
theorem keep1_any (A age : Nat) (x : RuV) (w : World) (hA : Blk w A 22 #[.int .u32 (age : Int)]) : Calls Try.prog 26 #[.agg #[.int .u32 (x.1.up : Int), x.2], .pointer (some ⟨A, 0, none⟩)] w fun e w' => e = .returned (.bool (decide (age ≤ x.1.up))) ∧ Frm (fun _ => False) w w' := by
  have g0 : Frm (fun _ => False) w (w.alloc (.cells #[.int .u32 (x.1.up : Int), x.2] 59)) := (Frm.refl _ w).alloc _
  have b0 : Blk (w.alloc (.cells #[.int .u32 (x.1.up : Int), x.2] 59)) w.heap.size 59 #[.int .u32 (x.1.up : Int), x.2] := Blk.alloc w _ _
  have c0 := b0.cell 0 rfl
  have c1 := (hA.keep g0 (fun h => h)).cell 0 rfl
  obtain ⟨q, hq⟩ : ∃ q, decide (age ≤ x.1.up) = q := ⟨_, rfl⟩
  have hqi : decide ((age : Int) ≤ (x.1.up : Int)) = q := by rw [← hq]; exact decide_eq_decide.2 (by omega)
  rw [hq]
  go_enter Try.func26, Try.ntmps26
  go_wp2_with fail
  go_ret
  exact ⟨by first | rfl | (rw [← hq]), g0⟩
set_option maxRecDepth 100000 in
set_option maxHeartbeats 2000000 in
theorem idx9_any (P : List RuV) (u : Value) (gf : FuncId) (caps : Array Value) (q : RuI → Bool) (w : World) (hP : RuL w u P) (hen : ∀ args W, (callFunc gf args).run Try.prog W = .ok (.enter gf args) W)
    (hg : ∀ x ∈ P, ∀ W, Frm (fun _ => False) w W → Calls Try.prog gf (#[.agg #[.int .u32 (x.1.up : Int), x.2]] ++ caps) W fun e w' => e = .returned (.bool (q x.1)) ∧ Frm (fun _ => False) W w') :
    Calls Try.prog 25 #[u, .func (.func gf) #[] caps] w fun e w' => Frm (fun _ => False) w w' ∧
      ((∃ k, ∃ h : k < P.length, e = .returned (.int .i64 (k : Int)) ∧ q P[k].1 = true ∧ ∀ j (hj : j < P.length), j < k → q P[j].1 = false) ∨ (e = .returned (.int .i64 (-1)) ∧ ∀ j (hj : j < P.length), q P[j].1 = false)) := by
  obtain ⟨g, rfl, _⟩ := hP.blk
  have h2 := hP.few
  have HG := Lib.hid hg
  have HP := Lib.hid hP
  clear hg hP
  go_enter Try.func25, Try.ntmps25
  go_wp2_with fail
  go_loopw [8] (fun i wr => ∃ k : Nat, k ≤ P.length ∧ i = .int .i64 k ∧ (∀ j (hj : j < P.length), j < k → q P[j].1 = false) ∧ Frm (fun _ => False) w wr) (fun i _ => P.length - (intOf i).toNat)
  case atStart => exact ⟨0, Nat.zero_le _, rfl, fun j _ h => absurd h (Nat.not_lt_zero _), Frm.refl _ _⟩
  case round =>
    obtain ⟨k, hk, rfl, hbef, f1⟩ := hrel
    have HBF := Lib.hid hbef
    clear hbef
    by_cases hlt : k < P.length
    · have hki : (k : Int) < (P.length : Int) := by omega
      have hk0 : (0 : Int) ≤ (k : Int) := by omega
      obtain ⟨c0, c1⟩ := (HP.out.keepF f1).elem k hlt
      have HC := Lib.hid (HG.out P[k] (List.getElem_mem hlt) wr f1)
      go_wp2_with fail
      refine HC.out.mono ?_
      rintro e w1 ⟨rfl, g1⟩
      have HF := Lib.hid (f1.trans g1)
      clear f1 g1 c0 c1 HC
      cases hq : q P[k].1 with
      | true =>
        have HQ := Lib.hid hq
        clear hq
        go_wp2_with fail
        go_ret
        exact ⟨HF.out, .inl ⟨k, hlt, rfl, HQ.out, HBF.out⟩⟩
      | false =>
        have HQ := Lib.hid hq
        clear hq
        go_wp2_with fail
        go_roundw
        case rel => exact ⟨k + 1, by omega, by go_num, fun j hj hjk => by
          rcases Nat.lt_or_ge j k with h | h
          · exact HBF.out j hj h
          · obtain rfl : j = k := by omega
            exact HQ.out, HF.out⟩
        case measure => simp [intOf]; omega
    · obtain rfl : k = P.length := by omega
      go_wp2_with fail
      go_ret
      exact ⟨f1, .inr ⟨rfl, fun j hj => HBF.out j hj hj⟩⟩
/-- What rulesOf answers. -/
def RulesTo (k a : Nat) (l : List StI) (w : World) (e : Ending) (w' : World) : Prop :=
  ∃ v P, e = .returned v ∧ RuL w' v P ∧ (∀ now s, now ≤ 4294967295 → evalR (P.map Prod.fst) (now - s.tick) s = one9 k a l now s) ∧ Frm (fun _ => False) w w'
set_option maxRecDepth 100000 in
set_option maxHeartbeats 4000000 in
theorem rules9_any (k a : Nat) (qt : Int) (v : Value) (l : List StI) (w : World) (h : StL w v l) (hb : l.length ≤ 1000000) :
    Calls Try.prog 24 #[.agg (pv k a qt), v] w (RulesTo k a l w) := by
  obtain ⟨aa, cap, rfl, hc1, hc2⟩ := h.slice
  have b0 : Blk (w.alloc (.cells (pv k a qt) 27)) w.heap.size 27 (pv k a qt) := Blk.alloc w _ _
  have g0 : Frm (fun _ => False) w (w.alloc (.cells (pv k a qt) 27)) := (Frm.refl _ w).alloc _
  have c0 := b0.cell 0 rfl
  have c1 := b0.cell 1 rfl
  have HN := Lib.hid (fun (u wd : Nat) W hwd hwl (g : Frm (fun _ => False) w W) => newest_any u wd _ l W hwd hwl (h.keepF g) hb)
  clear h
  have HA := Lib.hid all9_any
  have HG := Lib.hid g0
  by_cases h1 : k = 1
  · subst h1
    go_enter Try.func24, Try.ntmps24
    go_wp2_with fail
    refine (HA.out 7 _).mono ?_
    rintro e w1 ⟨rfl, g1⟩
    have H1 := Lib.hid (HG.out.trans g1)
    clear g1
    go_wp2_with fail
    refine (HN.out 63 8 w1 (by decide) (by decide) H1.out).mono ?_
    rintro e w2 ⟨f2, rfl, k2, g2⟩
    have H2 := Lib.hid (H1.out.trans g2)
    have K2 := Lib.hid k2
    clear g2 k2
    go_wp2_with fail
    refine (HN.out 511 64 w2 (by decide) (by decide) H2.out).mono ?_
    rintro e w3 ⟨f3, rfl, k3, g3⟩
    have H3 := Lib.hid (H2.out.trans g3)
    have K3 := Lib.hid k3
    have K2' := Lib.hid (K2.out.keep g3)
    clear g3 k3
    go_wp2_with fail
    go_ret
    refine ⟨_, [(⟨7, fun _ => true⟩, .func (.func 32) #[] #[]), (⟨63, firstS l 8⟩, f2), (⟨511, firstS l 64⟩, f3)], rfl, ?_, fun now s hnow => ?_, H3.out.alloc _⟩
    · refine RuL.made (P := [(⟨7, fun _ => true⟩, .func (.func 32) #[] #[]), (⟨63, firstS l 8⟩, f2), (⟨511, firstS l 64⟩, f3)]) (by rfl) (by simp) (fun x hx => ?_)
      simp only [List.mem_cons, List.not_mem_nil, or_false] at hx
      rcases hx with rfl | rfl | rfl
      · exact all1_keeps _
      · exact K2'.out
      · exact K3.out
    · unfold one9
      rw [if_pos rfl]
      simp only [List.map_cons, List.map_nil, evalR_cons, evalR_nil]
  · have h1i : ¬ (k : Int) = 1 := by omega
    by_cases h2 : k = 0
    · subst h2
      by_cases h3 : 0 < a
      · have h3i : (0 : Int) < (a : Int) := by omega
        go_enter Try.func24, Try.ntmps24
        go_wp2_with fail
        refine (HA.out _ _).mono ?_
        rintro e w1 ⟨rfl, g1⟩
        have H1 := Lib.hid (HG.out.trans g1)
        clear g1
        go_wp2_with fail
        go_ret
        refine ⟨_, [(⟨a, fun _ => true⟩, .func (.func 32) #[] #[])], rfl, ?_, fun now s hnow => ?_, H1.out.alloc _⟩
        · refine RuL.made (P := [(⟨a, fun _ => true⟩, .func (.func 32) #[] #[])]) (by rfl) (by simp) (fun x hx => ?_)
          rw [List.mem_singleton] at hx; subst hx; exact all1_keeps _
        · unfold one9
          rw [if_neg (by omega), if_pos ⟨rfl, h3⟩]
          simp only [List.map_cons, List.map_nil, evalR_cons, evalR_nil]
          by_cases h5 : now - s.tick ≤ a
          · rw [if_pos h5, decide_eq_true h5]
          · rw [if_neg h5, decide_eq_false h5]
      · have h3i : ¬ (0 : Int) < (a : Int) := by omega
        go_enter Try.func24, Try.ntmps24
        go_wp2_with fail
        refine (HA.out 4294967295 _).mono ?_
        rintro e w1 ⟨rfl, g1⟩
        have H1 := Lib.hid (HG.out.trans g1)
        clear g1
        go_wp2_with fail
        go_ret
        refine ⟨_, [(⟨4294967295, fun _ => true⟩, .func (.func 32) #[] #[])], rfl, ?_, fun now s hnow => ?_, H1.out.alloc _⟩
        · refine RuL.made (P := [(⟨4294967295, fun _ => true⟩, .func (.func 32) #[] #[])]) (by rfl) (by simp) (fun x hx => ?_)
          rw [List.mem_singleton] at hx; subst hx; exact all1_keeps _
        · have h5 : now - s.tick ≤ 4294967295 := by omega
          unfold one9
          rw [if_neg (by omega), if_neg (fun h => h3 h.2)]
          simp only [List.map_cons, List.map_nil, evalR_cons, evalR_nil]
          rw [if_pos h5]
    · have h2i : ¬ (k : Int) = 0 := by omega
      go_enter Try.func24, Try.ntmps24
      go_wp2_with fail
      refine (HA.out 4294967295 _).mono ?_
      rintro e w1 ⟨rfl, g1⟩
      have H1 := Lib.hid (HG.out.trans g1)
      clear g1
      go_wp2_with fail
      go_ret
      refine ⟨_, [(⟨4294967295, fun _ => true⟩, .func (.func 32) #[] #[])], rfl, ?_, fun now s hnow => ?_, H1.out.alloc _⟩
      · refine RuL.made (P := [(⟨4294967295, fun _ => true⟩, .func (.func 32) #[] #[])]) (by rfl) (by simp) (fun x hx => ?_)
        rw [List.mem_singleton] at hx; subst hx; exact all1_keeps _
      · have h5 : now - s.tick ≤ 4294967295 := by omega
        unfold one9
        rw [if_neg h1, if_neg (fun h => h2 h.1)]
        simp only [List.map_cons, List.map_nil, evalR_cons, evalR_nil]
        rw [if_pos h5]
end Go.Proofs.Ytbmlfhiffooilaa
