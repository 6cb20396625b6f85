/- What Make of a log answers and leaves. No condition. -/
import Derived.Test.YtddjkbpgaenpgaaGreatWlO
import Derived.Test.YtddjkbpgaenpgaaGreatRgW
import Derived.Test.YtddjkbpgaenpgaaGreatDvR
section
namespace Go.Proofs.YtddjkbpgaenpgaaGreat
open Go.RowKit Go.Shelf

/-- What Make does. -/
def mkR (L : LV) (n : Nat) (t : List UInt8) : RV × LV × Nat :=
  if 58 * (n - 1) < t.length then (⟨0, n, 0, false⟩, L, 7) else
  if (fmtR L (n : Int) (n : Int)).2 ≠ 0 then (⟨0, n, 0, false⟩, (fmtR L (n : Int) (n : Int)).1, (fmtR L (n : Int) (n : Int)).2) else
  anR (fmtR L (n : Int) (n : Int)).1 (0 * n) n 1 t
def MkTo (l b f x : Nat) (n : Nat) (fin : RV × LV × Nat) (w : World) (e : Ending) (w' : World) : Prop :=
  ∃ pv, e = .returned (.tuple #[pv, .int .i64 (fin.2.2 : Nat)]) ∧ Frm (LnX l f x) w w' ∧
    (fin.2.2 = 0 → ∃ q g, pv = .pointer (some ⟨q, 0, none⟩) ∧ w.heap.size ≤ q ∧ w.heap.size ≤ g ∧ WlR w' q l b f x g ⟨n, 0, 1, false⟩ fin.1 fin.2.1) ∧
    (fin.2.2 ≠ 0 → pv = .pointer none ∧ LnM w' l b f x fin.2.1)
theorem ls_mk (L : LV) (n : Nat) (t : List UInt8) : Ls L (mkR L n t).2.1 (3 * n + 6) := by
  have h1 := ls_fmt L n n
  have h2 := (ls_an (fmtR L (n : Int) (n : Int)).1 (0 * n) n 1 t).1
  unfold mkR
  split
  · exact Ls.refl _ _
  split
  · exact h1.mono (by omega)
  · exact (h1.trans h2).mono (by omega)
set_option maxHeartbeats 1000000 in
theorem make1_any (B C q l : Nat) (V : WV) (rp : Option Addr) (s : List UInt8) (w : World) (h : Wlk w q l V rp) (c0 : w.cell? ⟨B, 0, none⟩ = some (.pointer (some ⟨q, 0, none⟩))) (c1 : w.cell? ⟨C, 0, none⟩ = some (.string (bs s))) (h2 : 2 ≤ V.n) (h3 : V.n ≤ 2048) :
    Calls Tryz.prog 91 #[.pointer (some ⟨B, 0, none⟩), .pointer (some ⟨C, 0, none⟩)] w fun e w' => e = .returned (.int .i64 (if V.room < s.length then 7 else 0)) ∧ w = w' := by
  have hA := wtakes_any q l V rp s w h h2 h3
  obtain ⟨c, hc⟩ : ∃ c : Int, (if V.room < s.length then 7 else 0) = c := ⟨_, rfl⟩
  rw [hc] at hA ⊢
  have HA := Lib.hid hA
  clear h hA hc
  go_enter Tryz.func91, Tryz.ntmps91
  go_wp2_with fail
  refine HA.out.mono ?_
  rintro e w1 ⟨rfl, rfl⟩
  go_wp2_with fail
  go_ret
  exact ⟨rfl, rfl⟩
set_option maxHeartbeats 1000000 in
theorem make2_any (B C q l b f x : Nat) (V : WV) (rp : Option Addr) (L : LV) (s : List UInt8) (w : World) (h : WlM w q l b f x V rp L) (c0 : w.cell? ⟨B, 0, none⟩ = some (.pointer (some ⟨q, 0, none⟩))) (c1 : w.cell? ⟨C, 0, none⟩ = some (.string (bs s))) (ha : L.acts ≤ 800000) (hs : s.length ≤ 1000000) (hP : L.cs.length = 0 ∨ ∀ k, L.P k → k < w.heap.size) :
    Calls Tryz.prog 94 #[.pointer (some ⟨B, 0, none⟩), .pointer (some ⟨C, 0, none⟩)] w (AnTo q l b f x V rp 0 1 (anR L (0 * V.n) V.n 1 s) w) := by
  have HA : Hid (Calls Tryz.prog 95 #[.pointer (some ⟨q, 0, none⟩), .int .i64 0, .int .u32 1, .string (bs s)] w (AnTo q l b f x V rp 0 1 (anR L (0 * V.n) V.n 1 s) w)) := Lib.hid (anew_any q l b f x V rp L 0 1 s w h (by decide) (by decide) hs ha hP)
  obtain ⟨fin, hfin⟩ : ∃ fin, anR L (0 * V.n) V.n 1 s = fin := ⟨_, rfl⟩
  rw [hfin] at HA ⊢
  clear h hP hfin
  go_enter Tryz.func94, Tryz.ntmps94
  go_wp2_with fail
  with_reducible refine HA.out.mono ?_
  rintro e w1 ⟨rfl, h1⟩
  have H1 := Lib.hid h1
  clear h1 HA
  go_wp2_with fail
  go_ret
  exact ⟨rfl, H1.out⟩
set_option maxRecDepth 100000 in
set_option maxHeartbeats 16000000 in
theorem wmake_any (l b f x : Nat) (L : LV) (t : List UInt8) (w : World) (h : LnM w l b f x L) (ha : L.acts ≤ 700000) (hP : L.cs.length = 0 ∨ ∀ k, L.P k → k < w.heap.size) :
    Calls Tryz.prog 38 #[.pointer (some ⟨l, 0, none⟩), .string (bs t)] w (MkTo l b f x (L.D.n / 4) (mkR L (L.D.n / 4) t) w) := by
  have hmf : ∀ (fn : Fn) (first cap : Array Value) (w : World), (Instr.makeFunc fn first cap).run Tryz.prog w = .ok (.func fn first cap) w := fun _ _ _ _ => rfl
  have hN := h.dev.ok.hi
  have hNl := h.dev.ok.lo
  have hll := h.lt
  obtain ⟨w1, hw1⟩ : ∃ w1, w.alloc (.cells #[.string (bs t)] 9) = w1 := ⟨_, rfl⟩
  have g1 : Frm (fun _ => False) w w1 := by rw [← hw1]; exact (Frm.refl _ w).alloc _
  have z1 : w1.heap.size = w.heap.size + 1 := by rw [← hw1]; simp
  have b1 : Blk w1 w.heap.size 9 #[.string (bs t)] := by rw [← hw1]; exact Blk.alloc w _ _
  have HO := wover_any l b f x L w1 (h.keepF g1)
  obtain ⟨n, hn⟩ : ∃ n, L.D.n / 4 = n := ⟨_, rfl⟩
  have hn2 : 2 ≤ n ∧ n ≤ 512 ∧ 2 * n ≤ L.D.n := by omega
  rw [hn] at HO ⊢
  have HO := Lib.hid HO
  obtain ⟨⟨L1, e1⟩, hf⟩ : ∃ p, fmtR L (n : Int) (n : Int) = p := ⟨_, rfl⟩
  obtain ⟨fin, hfi⟩ : ∃ fin, mkR L n t = fin := ⟨_, rfl⟩
  have hfin : fin = if 58 * (n - 1) < t.length then (⟨0, n, 0, false⟩, L, 7) else if e1 ≠ 0 then (⟨0, n, 0, false⟩, L1, e1) else anR L1 (0 * n) n 1 t := by
    rw [← hfi]; unfold mkR; simp only [hf]
  have l1 := ls_fmt L n n
  rw [hf] at l1
  have l1 : Ls L L1 (n + 1) := l1
  have l2 := (ls_an L1 (0 * n) n 1 t).1
  rw [hfi]
  unfold MkTo
  have HL := Lib.hid h
  have HK := Lib.hid (And.intro g1 (And.intro z1 (And.intro b1 (And.intro hn2 (And.intro hll (And.intro hP (And.intro hN ha)))))))
  have HF := Lib.hid (And.intro hfin (And.intro hf (And.intro l1 l2)))
  clear h hN hNl hll g1 z1 b1 hn hn2 hf hfi hfin l1 l2 hP
  go_enter Tryz.func38, Tryz.ntmps38
  go_wp2_with fail
  refine HO.out.mono ?_
  rintro e w2 ⟨rfl, hW, g2, z2⟩
  obtain ⟨g1, z1, b1, hn2, hll, hP, hN, _⟩ := HK.out
  obtain ⟨w4, hw4⟩ : ∃ w4, w2.alloc (.cells #[.pointer (some ⟨w1.heap.size, 0, none⟩)] 73) = w4 := ⟨_, rfl⟩
  have g4 : Frm (fun _ => False) w2 w4 := by rw [← hw4]; exact (Frm.refl _ w2).alloc _
  have z4 : w4.heap.size = w2.heap.size + 1 := by rw [← hw4]; simp
  have b4 : Blk w4 w2.heap.size 73 #[.pointer (some ⟨w1.heap.size, 0, none⟩)] := by rw [← hw4]; exact Blk.alloc w2 _ _
  have c4 := b4.cell 0 rfl
  obtain ⟨w5, hw5⟩ : ∃ w5, w4.alloc (.cells #[.func (.func 91) #[] #[.pointer (some ⟨w2.heap.size, 0, none⟩), .pointer (some ⟨w.heap.size, 0, none⟩)], .func (.func 93) #[.pointer (some ⟨w1.heap.size, 0, none⟩)] #[], .func (.func 94) #[] #[.pointer (some ⟨w2.heap.size, 0, none⟩), .pointer (some ⟨w.heap.size, 0, none⟩)]] 65) = w5 := ⟨_, rfl⟩
  have g5 : Frm (fun _ => False) w4 w5 := by rw [← hw5]; exact (Frm.refl _ w4).alloc _
  have b5 : Blk w5 w4.heap.size 65 #[.func (.func 91) #[] #[.pointer (some ⟨w2.heap.size, 0, none⟩), .pointer (some ⟨w.heap.size, 0, none⟩)], .func (.func 93) #[.pointer (some ⟨w1.heap.size, 0, none⟩)] #[], .func (.func 94) #[] #[.pointer (some ⟨w2.heap.size, 0, none⟩), .pointer (some ⟨w.heap.size, 0, none⟩)]] := by rw [← hw5]; exact Blk.alloc w4 _ _
  have gw5 : Frm (fun _ => False) w w5 := ((g1.trans g2).trans g4).trans g5
  have b4 := b4.keep g5 (fun h => h)
  have b1 := ((b1.keep g2 (fun h => h)).keep g4 (fun h => h)).keep g5 (fun h => h)
  have hW5 := (hW.keepF g4).keepF g5
  have hL5 := HL.out.keepF gw5
  obtain ⟨q, hq⟩ : ∃ q, w1.heap.size = q := ⟨_, rfl⟩
  have hqz : q = w.heap.size + 1 := by omega
  have nX : ∀ k, w.heap.size ≤ k → k ≠ q → ¬ WlX q l f x k := fun k hk hkq hX => by
    rcases hX with rfl | hX
    · exact hkq rfl
    · exact notX (by omega) (by omega) (by omega) hX
  have hok5 : WV.ok ⟨n, 0, 0, false⟩ L.D.n := ⟨hn2.1, hn2.2.2, hN, Nat.zero_le _, show (0 : Nat) < 4294967296 by decide⟩
  rw [hq] at hW5
  have hM5 : WlM w5 q l b f x ⟨n, 0, 0, false⟩ none L := ⟨hW5, hL5, ⟨by omega, by omega, by omega, by omega⟩, hP.imp id fun u k hk => by have := u k hk; omega, hok5⟩
  obtain ⟨hfin, hf, l1, l2⟩ := HF.out
  have hnI : ((n : Nat) : Int) = (n : Int) := rfl
  have hP5 := perform_any w4.heap.size [.func (.func 91) #[] #[.pointer (some ⟨w2.heap.size, 0, none⟩), .pointer (some ⟨w.heap.size, 0, none⟩)], .func (.func 93) #[.pointer (some ⟨w1.heap.size, 0, none⟩)] #[], .func (.func 94) #[] #[.pointer (some ⟨w2.heap.size, 0, none⟩), .pointer (some ⟨w.heap.size, 0, none⟩)]]
    (fun k W => Frm (WlX q l f x) w5 W ∧ (k ≤ 1 → W = w5) ∧ (0 < k → ¬ 58 * (n - 1) < t.length) ∧ (1 < k → e1 = 0) ∧ (k = 2 → WlM W q l b f x ⟨n, 0, 0, false⟩ none L1) ∧
      (2 < k → fin.2.2 = 0 ∧ ∃ g, w.heap.size ≤ g ∧ WlM W q l b f x ⟨n, 0, 1, false⟩ (some ⟨g, 0, none⟩) fin.2.1 ∧ RgM W g l b f x fin.1 fin.2.1 ∧ g ≠ q))
    (fun c W => Frm (WlX q l f x) w5 W ∧ c = fin.2.2 ∧ LnM W l b f x fin.2.1) w5 (show 3 ≤ 100 by decide)
    ⟨Frm.refl _ _, fun _ => rfl, fun h => absurd h (by omega), fun h => absurd h (by omega), fun h => absurd h (by omega), fun h => absurd h (by omega)⟩
    (fun k hk W hW => by
      have c0 := (b5.keep hW.1 (nX _ (by have := gw5.size; omega) (by omega))).cell k (Array.getElem?_eq_getElem (by simpa using hk))
      rw [c0]
      rcases (by simp at hk; omega : k = 0 ∨ k = 1 ∨ k = 2) with rfl | rfl | rfl <;> rfl)
    (fun k hk => by
      rcases (by simp at hk; omega : k = 0 ∨ k = 1 ∨ k = 2) with rfl | rfl | rfl
      · refine ⟨91, #[], _, _, rfl, .inl ⟨rfl, rfl⟩, fun xs W => by go_simp, fun W hW => ?_⟩
        obtain ⟨gW, q0, _, _, _, _⟩ := hW
        obtain rfl := q0 (by omega)
        have c0 := b4.cell 0 rfl
        rw [hq] at c0
        have := make1_any w2.heap.size w.heap.size q l ⟨n, 0, 0, false⟩ none t W hW5 c0 (b1.cell 0 rfl) hn2.1 (by show n ≤ 2048; omega)
        refine this.mono fun e W2 hq => ?_
        obtain ⟨e1', rfl⟩ := hq
        have hroom : WV.room ⟨n, 0, 0, false⟩ = 58 * (n - 1) := rfl
        rw [hroom] at e1'
        by_cases hlt : 58 * (n - 1) < t.length
        · refine ⟨7, by rw [e1', if_pos hlt]; rfl, fun hc => absurd hc (by decide), fun _ => ⟨gW, ?_, ?_⟩⟩
          · rw [hfin, if_pos hlt]
          · rw [hfin, if_pos hlt]; exact hL5
        · refine ⟨0, by rw [e1', if_neg hlt]; rfl, fun _ => ⟨gW, fun _ => rfl, fun _ => hlt, fun h => absurd h (by omega), fun h => absurd h (by omega), fun h => absurd h (by omega)⟩, fun hc => absurd rfl hc⟩
      · refine ⟨93, _, #[], _, rfl, .inr ⟨_, rfl, rfl, rfl⟩, fun xs W => by go_simp, fun W hW => ?_⟩
        obtain ⟨gW, q0, q1, _, _, _⟩ := hW
        obtain rfl := q0 (by omega)
        have hlt := q1 (by omega)
        rw [hq]
        have := wforget_any q l b f x ⟨n, 0, 0, false⟩ none L W hW5 hL5 (by show n ≤ 2048; omega) (by have := HK.out.2.2.2.2.2.2.2; omega) (hP.imp id fun u k hk => by have := u k hk; have := gw5.size; omega)
        refine this.mono fun e W2 hq => ?_
        obtain ⟨e1', e2, e3⟩ := hq
        have e1' : e = .returned (.int .i64 ((fmtR L (n : Int) (n : Int)).2 : Nat)) := e1'
        have e2 : LnM W2 l b f x (fmtR L (n : Int) (n : Int)).1 := e2
        rw [hf] at e1' e2
        have gX : Frm (WlX q l f x) W W2 := e3.mono fun _ _ h => .inr h
        refine ⟨e1, e1', fun hc => ⟨gX, fun h => absurd h (by omega), fun _ => hlt, fun _ => hc, fun _ => hM5.lined e2 e3 hM5.notL l1.P l1.cs l1.n, fun h => absurd h (by omega)⟩, fun hc => ⟨gX, ?_, ?_⟩⟩
        · rw [hfin, if_neg hlt, if_pos hc]
        · rw [hfin, if_neg hlt, if_pos hc]; exact e2
      · refine ⟨94, #[], _, _, rfl, .inl ⟨rfl, rfl⟩, fun xs W => by go_simp, fun W hW => ?_⟩
        obtain ⟨gW, _, q1, q2, q3, _⟩ := hW
        have hlt := q1 (by omega)
        have he1 := q2 (by omega)
        have hM := q3 rfl
        have c0 := (b4.keep gW (nX _ (by omega) (by omega))).cell 0 rfl
        rw [hq] at c0
        have := make2_any w2.heap.size w.heap.size q l b f x ⟨n, 0, 0, false⟩ none L1 t W hM c0 ((b1.keep gW (nX _ (Nat.le_refl _) (by omega))).cell 0 rfl) (by have := HK.out.2.2.2.2.2.2.2; have := l1.acts; omega) (by omega) (by
          rw [l1.cs, l1.P]
          exact hP.imp id fun u k hk => by have := u k hk; have := gw5.size; have := gW.size; omega)
        have hff : fin = anR L1 (0 * n) n 1 t := by rw [hfin, if_neg hlt, if_neg (by omega)]
        refine this.mono fun e W2 hq => ?_
        have hq : AnTo q l b f x ⟨n, 0, 0, false⟩ none 0 1 (anR L1 (0 * n) n 1 t) W e W2 := hq
        rw [← hff] at hq
        obtain ⟨e1', e2, e3, e4⟩ := hq
        refine ⟨fin.2.2, e1', fun hc => ⟨gW.trans e2, fun h => absurd h (by omega), fun _ => hlt, fun _ => he1, fun h => absurd h (by omega), fun _ => ⟨hc, ?_⟩⟩, fun hc => ⟨gW.trans e2, rfl, (e4 hc).ln⟩⟩
        obtain ⟨g, hg, hm, hr⟩ := e3 hc
        exact ⟨g, by have := gw5.size; have := gW.size; omega, hm, hr, by have := g4.size; have := g5.size; have := gW.size; omega⟩)
  simp only [List.length_cons, List.length_nil, Nat.reduceAdd] at hP5
  have HP := Lib.hid hP5
  have HQ := Lib.hid (And.intro hq (And.intro nX (And.intro gw5 (And.intro hqz (And.intro b4 z2)))))
  clear hP5 g1 z1 b1 hn2 hll hP hN hW g2 z2 g4 z4 b4 g5 b5 gw5 hW5 hL5 nX hok5 hM5 hfin hf l1 l2 hq hqz
  go_wp2_with fail
  clear hw1 hw4 hw5 c4
  with_reducible refine HP.out.mono ?_
  rintro e w6 ⟨c, rfl, hi, he⟩
  by_cases hc : c = 0
  · subst hc
    obtain ⟨gX, _, _, _, _, q5⟩ := hi rfl
    obtain ⟨hfc, g, hg, hm, hr, hgq⟩ := q5 (by decide)
    have kb : w6.cell? ⟨w2.heap.size, 0, none⟩ = some (.pointer (some ⟨w1.heap.size, 0, none⟩)) := (HQ.out.2.2.2.2.1.keep gX (HQ.out.2.1 _ (by have := HQ.out.2.2.2.1; have := HQ.out.2.2.2.2.2; have := HQ.out.1; omega) (by have := HQ.out.2.2.2.2.2; have := HQ.out.1; omega))).cell 0 rfl
    have H6 := Lib.hid (And.intro gX (And.intro hfc (And.intro hg (And.intro hm (And.intro hr hgq)))))
    clear gX q5 hfc hg hm hr hgq hi he HP
    go_wp2_with fail
    go_ret2
    obtain ⟨gX, hfc, hg, hm, hr, hgq⟩ := H6.out
    obtain ⟨hq, nX, gw5, hqz, _⟩ := HQ.out
    refine ⟨.pointer (some ⟨w1.heap.size, 0, none⟩), by rw [hfc]; rfl, (gw5.mono fun _ _ h => h.elim : Frm (LnX l f x) w w5).next gX (fun k hk hX => ?_), fun _ => ⟨q, g, by rw [hq], by omega, hg, ⟨hm, hr, hgq⟩⟩, fun h => absurd hfc h⟩
    rcases hX with rfl | hX
    · omega
    · exact hX
  · have hq : ((c : Int) != 0) = true := by simp; omega
    obtain ⟨gX, hcf, hl6⟩ := he hc
    have H6 := Lib.hid (And.intro gX (And.intro hcf (And.intro hl6 hc)))
    clear hi he HP gX hcf hl6 hc
    go_wp2_with fail
    go_ret2
    obtain ⟨gX, rfl, hl6, hc⟩ := H6.out
    obtain ⟨hq, nX, gw5, hqz, _⟩ := HQ.out
    refine ⟨_, rfl, (gw5.mono fun _ _ h => h.elim : Frm (LnX l f x) w w5).next gX (fun k hk hX => ?_), fun h => absurd h hc, fun _ => ⟨rfl, hl6⟩⟩
    rcases hX with rfl | hX
    · omega
    · exact hX
end Go.Proofs.YtddjkbpgaenpgaaGreat
end
section
namespace Go.Proofs.YtddjkbpgaenpgaaGreat
open Go.RowKit Go.Shelf

/-- One more group, over a line that no act cuts. -/
theorem apR_uc {R : RV} {L : LV} {gs : List (List UInt8)} {fc gen : Nat} (h : StR R L gs fc gen) (hu : Uc L) (s : List UInt8) (hf : needs s.length ≤ R.left) :
    ∃ L', apR R L s = (⟨R.at_, R.n, R.used + needs s.length, false⟩, L', 0) ∧ StR ⟨R.at_, R.n, R.used + needs s.length, false⟩ L' (gs ++ [s]) fc gen ∧ Uc L' ∧ L'.acts = L.acts + needs s.length ∧ L'.cs = L.cs ∧ L'.P = L.P ∧ L'.D = (wrs (R.at_ + 1 + R.used) (blks (R.used + 1) s)).foldl (fun D F => F D) L.D := by
  have hs := hu.seq (wrs (R.at_ + 1 + R.used) (blks (R.used + 1) s))
  rcases apR_st h s with ⟨h1, _⟩ | ⟨_, L', h1, h2, h3⟩ | ⟨_, L', h1, h2, _⟩
  · omega
  · subst h2
    exact ⟨_, h1, h3, hs.2.1, by rw [hs.2.2.1, wrs_len, blks_len], hs.2.2.2.1, hs.2.2.2.2.1, hs.2.2.2.2.2⟩
  · rw [hs.1] at h2; cases h2
theorem flR_uc {R : RV} {L : LV} {gs : List (List UInt8)} {fc gen : Nat} (h : StR R L gs fc gen) (hu : Uc L) :
    ∃ L', flR R L = (R, L', 0) ∧ StR R L' gs (nb gs) gen ∧ Uc L' ∧ L'.acts = L.acts + 1 ∧ L'.cs = L.cs ∧ L'.P = L.P ∧ L'.D = L.D.flush := by
  have hs := hu.seq [DV.flush]
  rcases flR_st h with ⟨L', h1, h2, h3⟩ | ⟨L', h1, h2, _⟩
  · subst h2
    exact ⟨_, h1, h3, hs.2.1, hs.2.2.1, hs.2.2.2.1, hs.2.2.2.2.1, hs.2.2.2.2.2⟩
  · rw [hs.1] at h2; cases h2
theorem slR_uc {R : RV} {L : LV} {gs : List (List UInt8)} {fc gen : Nat} (h : StR R L gs fc gen) (hu : Uc L) {g : Nat} (hg0 : g ≠ 0) (hg : g < 4294967296) :
    ∃ L', slR R L g = (R, L', 0) ∧ StR R L' gs (nb gs) g ∧ Uc L' ∧ L'.acts = L.acts + 2 ∧ L'.cs = L.cs ∧ L'.P = L.P ∧ L'.D = (wrD R.at_ (hdB g) L.D).flush := by
  have hs := hu.seq [wrD R.at_ (hdB g), DV.flush]
  rcases slR_st h hg0 hg with ⟨L', h1, h2, h3⟩ | ⟨L', h1, h2, _⟩
  · subst h2
    exact ⟨_, h1, h3, hs.2.1, hs.2.2.1, hs.2.2.2.1, hs.2.2.2.2.1, hs.2.2.2.2.2⟩
  · rw [hs.1] at h2; cases h2
theorem new_uc : Uc (LV.new (DV.new 256) (-1) []) := ⟨rfl, by show (-1 : Int) < 0; decide⟩
end Go.Proofs.YtddjkbpgaenpgaaGreat
end
section
namespace Go.Proofs.YtddjkbpgaenpgaaGreat

theorem Uc.seq1 {L : LV} (h : Uc L) (l : List (DV → DV)) : Uc (L.seq l).1 := (h.seq l).2.1
theorem uc_fmt {L : LV} (h : Uc L) (q m : Int) : Uc (fmtR L q m).1 := by
  unfold fmtR
  split
  · exact h.seq1 _
  · exact h
theorem uc_ap {R : RV} {L : LV} (h : Uc L) (t : List UInt8) : Uc (apR R L t).2.1 := by
  unfold apR
  split
  · exact h
  split
  · exact h
  split <;> exact h.seq1 _
theorem uc_fl {R : RV} {L : LV} (h : Uc L) : Uc (flR R L).2.1 := by
  unfold flR
  split
  · exact h
  · exact h.seq1 _
theorem uc_sl {R : RV} {L : LV} (h : Uc L) (g : Nat) : Uc (slR R L g).2.1 := by
  unfold slR
  split
  · exact h
  split
  · exact h
  · exact h.seq1 _
theorem uc_an {L : LV} (h : Uc L) (A n gen : Nat) (t : List UInt8) : Uc (anR L A n gen t).2.1 := by
  unfold anR
  split
  · exact uc_fmt h _ _
  split
  · exact uc_ap (uc_fmt h _ _) t
  split
  · exact uc_fl (uc_ap (uc_fmt h _ _) t)
  · exact uc_sl (uc_fl (uc_ap (uc_fmt h _ _) t)) gen
theorem uc_cm {R : RV} {L : LV} (h : Uc L) (t : List UInt8) : Uc (cmR R L t).2.1 := by
  unfold cmR
  split
  · exact uc_ap h t
  · exact uc_fl (uc_ap h t)
section
variable {n : Nat} {L : LV} {D : DV} {R : RV} {s g : Nat} {gs : List (List UInt8)}
theorem Cm.cm_uc (h : Cm n L R s g gs) (hu : Uc L) {t : List UInt8} (ht : needs t.length ≤ R.left) :
    (cmR R L t).2.2 = 0 ∧ Cm n (cmR R L t).2.1 (cmR R L t).1 s g (gs ++ [t]) ∧ Uc (cmR R L t).2.1 := by
  have hu' := uc_cm (R := R) hu t
  rcases h.cm ht with ⟨h1, h2⟩ | ⟨_, h2, _⟩
  · exact ⟨h1, h2, hu'⟩
  · rw [hu'.1] at h2; cases h2
/-- Make, on a device without fresh bytes. -/
theorem mk_uc (hu : Uc L) (hok : L.D.ok) (h2 : 2 ≤ n) (h3 : n ≤ 256) (h4 : 2 * n ≤ L.D.n) {t : List UInt8} (ht : t.length ≤ 58 * (n - 1)) :
    (mkR L n t).2.2 = 0 ∧ Cm n (mkR L n t).2.1 (mkR L n t).1 0 1 [t] ∧ Uc (mkR L n t).2.1 := by
  have hnd : needs t.length + 1 ≤ n := by unfold needs; omega
  have f1 := fmtR_st (L := L) (A := n) (n := n) hu.1 (fun k _ => by have := hu.2; omega) hok h2 h3 (by omega)
  obtain ⟨q1, q2, q3, q4, q5, q6, q7, q8⟩ := f1
  have u1 := uc_fmt hu (n : Int) (n : Int)
  have x1 : ∀ k, (fmtR L (n : Int) (n : Int)).1.D.X k = none := by
    unfold fmtR
    rw [if_pos (rgC_zero h2 (by omega) (by omega)), Int.toNat_natCast]
    intro k
    have hz := (hu.seq (fmtA n n)).1
    rw [LV.seq_zero _ L hu.1 hz]
    exact (fmt_live hok (by omega) h2).2.2.1 k
  have e0 : mkR L n t = anR (fmtR L (n : Int) (n : Int)).1 (0 * n) n 1 t := by
    unfold mkR
    rw [if_neg (by omega), if_neg (not_not_intro q1)]
  rw [e0]
  obtain ⟨L1, hL1⟩ : ∃ L1, (fmtR L (n : Int) (n : Int)).1 = L1 := ⟨_, rfl⟩
  rw [hL1] at q2 q3 q4 q5 q6 q7 q8 u1 x1 ⊢
  have hok1 : L1.D.ok := q8.inv.ok
  have hread : L1.D.F n = zb := by
    rw [← DV.read_none (x1 n), q7 n, if_pos (by omega)]
  have hu' := uc_an u1 (0 * n) n 1 t
  -- the first region is made
  rw [Nat.zero_mul] at hu' ⊢
  have f2 := fmtR_st (L := L1) (A := 0) (n := n) u1.1 (fun k _ => by have := u1.2; omega) hok1 h2 h3 (by omega)
  obtain ⟨p1, p2, p3, p4, p5, p6, p7, p8⟩ := f2
  have u2 := uc_fmt u1 ((0 : Nat) : Int) (n : Int)
  have x2 : ∀ k, (fmtR L1 ((0 : Nat) : Int) (n : Int)).1.D.X k = none := by
    unfold fmtR
    rw [if_pos (rgC_zero h2 (by omega) (by omega)), Int.toNat_natCast, Int.toNat_natCast]
    intro k
    have hz := (u1.seq (fmtA 0 n)).1
    rw [LV.seq_zero _ L1 u1.1 hz]
    exact (fmt_live hok1 (by omega) h2).2.2.1 k
  obtain ⟨L2, hL2⟩ : ∃ L2, (fmtR L1 ((0 : Nat) : Int) (n : Int)).1 = L2 := ⟨_, rfl⟩
  have hread2 : L2.D.F n = zb := by
    have := p7 n
    rw [if_neg (by omega), DV.read_none (x1 n), hread, hL2, DV.read_none (by rw [← hL2]; exact x2 n)] at this
    exact this
  rw [hL2] at p2 p3 p4 p5 p6 p7 p8 u2 x2
  have hlf : needs t.length ≤ RV.left ⟨0, n, 0, false⟩ := by show _ ≤ n - 1 - 0; omega
  obtain ⟨L3, a1, a2, a3, a4, a5, a6, a7⟩ := apR_uc p8 u2 t (by show needs t.length ≤ n - 1 - 0; omega)
  obtain ⟨L4, b1, b2, b3, b4, b5, b6, b7⟩ := flR_uc a2 a3
  obtain ⟨L5, c1, c2, c3, c4, c5, c6, c7⟩ := slR_uc b2 b3 (g := 1) (by decide) (by decide)
  have e1 : anR L1 0 n 1 t = (⟨0, n, 0 + needs t.length, false⟩, L5, 0) := by
    unfold anR
    rw [hL2, if_neg (not_not_intro p1), a1]
    rw [if_neg (show ¬ (0 : Nat) ≠ 0 by decide)]
    show (if (flR ⟨0, n, 0 + needs t.length, false⟩ L3).2.2 ≠ 0 then _ else slR (flR ⟨0, n, 0 + needs t.length, false⟩ L3).1 (flR ⟨0, n, 0 + needs t.length, false⟩ L3).2.1 1) = _
    rw [b1, if_neg (show ¬ (0 : Nat) ≠ 0 by decide)]
    exact c1
  rw [e1] at hu' ⊢
  refine ⟨rfl, ⟨c2, by show 0 = 0 * n; omega, rfl, h2, ?_, ?_, .inl rfl, by decide, ?_⟩, hu'⟩
  · show 2 * n ≤ L5.D.n
    rw [c7]
    show 2 * n ≤ (wrD 0 (hdB 1) L4.D).n
    rw [show (wrD 0 (hdB 1) L4.D).n = L4.D.n from writeTo_n _ _ _, b7]
    show 2 * n ≤ L3.D.n
    have := (LV.seq_same (wrs (0 + 1 + 0) (blks (0 + 1) t)) L2 (wrs_n _ _)).2.2.2.2
    have e7 : L3.D.n = L2.D.n := by
      have h7 := ls_ap ⟨0, n, 0, false⟩ L2 t
      rw [a1] at h7
      exact h7.1.n
    rw [e7, p6, q6]; exact h4
  · intro k
    show L5.D.X k = none
    rw [c7]; rfl
  · show Qt (L5.D.F ((1 - 0) * n)) 1
    have hF : L5.D.F n = zb := by
      rw [c7]
      have o1 : OutD (fun k => k = 0) L4.D (wrD 0 (hdB 1) L4.D) := OutD.wr (B := fun k => k = 0) rfl _ _
      have o2 : OutD (fun k => k = 0) (wrD 0 (hdB 1) L4.D) (wrD 0 (hdB 1) L4.D).flush := OutD.flush _ _
      have x4 : L4.D.X n = none := by rw [b7]; rfl
      have f4 : L4.D.F n = zb := by
        rw [b7]
        show L3.D.read n = zb
        have o3 : OutD (fun k => 0 < k ∧ k < n) L2.D L3.D := by
          have h8 := OutD.seq L2 (ap_in (R := ⟨0, n, 0, false⟩) (s := 0) (n := n) (by show 0 = 0 * n; omega) rfl hlf)
          have h9 := (apR_seq (L := L2) (R := ⟨0, n, 0, false⟩) rfl hlf).1
          rw [a1] at h9
          have h9 : L3 = _ := h9
          rw [h9]
          exact h8.mono fun k hk => by omega
        have h10 := o3 n (by omega) (x2 n)
        rw [DV.read_none h10.1, h10.2]
        exact hread2
      have h11 := (o1.trans o2) n (by omega) x4
      exact h11.2.trans f4
    rw [show (1 - 0) * n = n by omega, hF]
    exact Qt.zer (by decide)
/-- What Open finds. -/
theorem Rest.op (h : Rest n D s g gs) (hd : L.down = false) (hD : L.D = D) : opR L n = (s, g, gs, 0) := by
  subst hD
  have hr := h.reads
  have hsd := side_lt h.s1 h.n2 h.inn
  have r0 : ∀ s', s' = 0 ∨ s' = 1 → rdR L ((s' * n : Nat) : Int) (n : Int) = (genOf (L.D.read (s' * n)), L.D.groups (s' * n) n, 0) := fun s' hs' => rdR_live hd h.n2 (by have := h.n256; omega) (side_lt hs' h.n2 h.inn).1
  have hp := h.pos
  unfold opR
  rw [r0 0 (.inl rfl), r0 1 (.inr rfl), if_neg (show ¬ (0 : Nat) ≠ 0 by decide), if_neg (show ¬ (0 : Nat) ≠ 0 by decide)]
  have hgr := h.grp
  obtain ⟨h1, h2⟩ := hr
  rcases h.s1 with e | e
  · subst e
    have h2 : genOf (L.D.read (1 * n)) < g := h2
    rw [h1, hgr]
    rw [if_neg (show ¬ g < genOf (L.D.read (1 * n)) by omega), if_neg (show ¬ g = 0 by omega)]
  · subst e
    have h2 : genOf (L.D.read (0 * n)) < g := h2
    rw [h1, hgr]
    rw [if_pos h2]
end
end Go.Proofs.YtddjkbpgaenpgaaGreat
end
