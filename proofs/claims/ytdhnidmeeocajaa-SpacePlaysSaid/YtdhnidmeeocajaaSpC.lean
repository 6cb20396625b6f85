/- What New, Load and Copy make. No condition. -/
import Derived.Test.YtdhnidmeeocajaaSpB
import Derived.Test.YtdhnidmeeocajaaDvAct
import Derived.Laws.MakeOwn
namespace Go.Proofs.Ytdhnidmeeocajaa
open Go.RowKit

theorem sinfo_parts {α β γ : Type} {o : Option TypeInfo} {f : TypeInfo → α} {g : TypeInfo → β} {h : TypeInfo → γ} {a : α} {b : β} {c : γ} (e : o.map (fun i => (f i, g i, h i)) = some (a, b, c)) : ∃ i, o = some i ∧ f i = a ∧ g i = b ∧ h i = c := by
  cases o with
  | none => cases e
  | some i => simp at e; exact ⟨i, rfl, e.1, e.2.1, e.2.2⟩
def pz : Value := .agg #[.int .u64 0, .int .u64 0, .int .u64 0, .int .u64 0]
theorem infoPg : (Try.prog.info? 64).map (fun i => (i.zero, i.size, i.bytes)) = some (some pz, 4, 32) := by kernel_rfl
theorem pz_cells : pz.cells = #[.int .u64 0, .int .u64 0, .int .u64 0, .int .u64 0] := by kernel_rfl
theorem madePg (n j : Nat) (h : j < n) : (madeCells pz.cells n)[j]? = some (.int .u64 0) := by
  rw [pz_cells]
  have h4 : j % 4 < 4 := Nat.mod_lt _ (by decide)
  simp only [madeCells, Array.getElem?_map, Array.getElem?_range, h, if_true, Option.map_some]
  rcases (show j % 4 = 0 ∨ j % 4 = 1 ∨ j % 4 = 2 ∨ j % 4 = 3 by omega) with e | e | e | e <;> simp [e]
theorem run_makePages (W : World) (n : Nat) (h : n ≤ 1000) : ∃ cs : Array Value, cs.size = n * 4 ∧ (∀ j, j < n * 4 → cs[j]? = some (.int .u64 0)) ∧ (Instr.makeSlice 53 (.int .i64 (n : Int)) (.int .i64 (n : Int))).run Try.prog W = .ok (.slice (some ⟨W.heap.size, 0, none⟩) n n) (W.alloc (.cells cs 64)) := by
  obtain ⟨i0, hi, hz0, hz1, hz2⟩ := sinfo_parts infoPg
  have hmk := run_make (P := Try.prog) W 53 64 i0 pz Try.underlying53 hi hz0 .i64 .i64 n n (by omega) (by omega) (by rw [hz2]; omega) (by omega)
  rw [Int.toNat_natCast, hz1] at hmk
  exact ⟨_, size_madeCells _ _, fun j hj => madePg _ j hj, hmk⟩
set_option maxRecDepth 100000 in
set_option maxHeartbeats 1000000 in
theorem spbuild_any (a n : Int) (b : Option Addr) (m c : Nat) (w : World) :
    Calls Try.prog 24 #[.int .i64 a, .int .i64 n, .slice b m c] w fun e w' => e = .returned (.pointer (some ⟨w.heap.size, 0, none⟩)) ∧ Blk w' w.heap.size 55 #[.pointer (some ⟨w.heap.size, 0, none⟩), .int .i64 a, .int .i64 n, .slice b m c] ∧ Frm (fun _ => False) w w' := by
  have HB := Lib.hid (And.intro (Blk.alloc w 55 #[.pointer (some ⟨w.heap.size, 0, none⟩), .int .i64 a, .int .i64 n, .slice b m c]) ((Frm.refl (fun _ => False) w).alloc (.cells #[.pointer (some ⟨w.heap.size, 0, none⟩), .int .i64 a, .int .i64 n, .slice b m c] 55)))
  go_enter Try.func24, Try.ntmps24
  go_wp2_with fail
  go_ret
  exact ⟨rfl, HB.out.1, HB.out.2⟩
/-- A new space. -/
def NewSp (S : SpV) (w : World) (v : Value) (w' : World) : Prop := ∃ s g, v = .pointer (some ⟨s, 0, none⟩) ∧ SpM w' s g S ∧ w.heap.size ≤ s ∧ w.heap.size ≤ g ∧ Frm (fun _ => False) w w'
/-- May there be a space? -/
def maySp (a n : Int) : Bool := decide (0 ≤ a) && decide (a < n) && decide (n ≤ 2048)
theorem maySp_nat {a n : Int} (h : maySp a n = true) : ∃ A N : Nat, a = A ∧ n = N ∧ A < N ∧ N ≤ 2048 := by
  unfold maySp at h
  simp only [Bool.and_eq_true, decide_eq_true_eq] at h
  exact ⟨a.toNat, n.toNat, by omega, by omega, by omega, by omega⟩
theorem maySp_not {a n : Int} (h : maySp a n = false) : a < 0 ∨ n ≤ a ∨ 2048 < n := by
  unfold maySp at h
  rw [Bool.and_eq_false_iff, Bool.and_eq_false_iff] at h
  simp only [decide_eq_false_iff_not] at h
  omega
def NewSpTo (a n : Int) (w : World) (e : Ending) (w' : World) : Prop :=
  if maySp a n then ∃ v, e = .returned v ∧ NewSp (SpV.new a.toNat n.toNat) w v w' else e = .returned (.pointer none) ∧ w = w'
theorem wd_zero (a n : Nat) : Wd (SpV.till a n a) (fun _ => 0) := ⟨fun _ => by decide, fun k _ => by
  rw [Nat.zero_testBit]
  show false = (decide (a ≤ k) && decide (k < a))
  by_cases h : a ≤ k
  · rw [decide_eq_false (by omega : ¬ k < a), Bool.and_false]
  · rw [decide_eq_false h, Bool.false_and]⟩
set_option maxRecDepth 100000 in
set_option maxHeartbeats 4000000 in
theorem spnew_any (a n : Int) (w : World) (ha : Z64 a) (hn : Z64 n) : Calls Try.prog 9 #[.int .i64 a, .int .i64 n] w (NewSpTo a n w) := by
  unfold NewSpTo
  cases hm : maySp a n with
  | false =>
    simp only [Bool.false_eq_true, if_false]
    have hh := maySp_not hm
    clear hm ha hn
    by_cases h1 : a < 0
    · go_enter Try.func9, Try.ntmps9
      go_wp2_with fail
      go_ret
      exact ⟨rfl, rfl⟩
    · by_cases h2 : n ≤ a
      · go_enter Try.func9, Try.ntmps9
        go_wp2_with fail
        go_ret
        exact ⟨rfl, rfl⟩
      · have h3 : 2048 < n := by omega
        clear hh
        go_enter Try.func9, Try.ntmps9
        go_wp2_with fail
        go_ret
        exact ⟨rfl, rfl⟩
  | true =>
    simp only [if_true]
    obtain ⟨A, N, rfl, rfl, h1, h2⟩ := maySp_nat hm
    rw [Int.toNat_natCast, Int.toNat_natCast]
    clear hm ha hn
    obtain ⟨p, hp⟩ : ∃ p, (SpV.till A N A).np = p := ⟨_, rfl⟩
    have hp' : (N + 255) / 256 = p := hp
    have hp0 : 0 < p := by omega
    have hp8 : p ≤ 8 := by omega
    obtain ⟨cs, hcs, hcz, hmk⟩ := run_makePages w p (by omega)
    have gm : Frm (fun _ => False) w (w.alloc (.cells cs 64)) := (Frm.refl _ w).alloc _
    have bm := Blk.alloc w 64 cs
    have t1 : ((N : Int) + 256 - 1).tdiv 256 = (p : Int) := by rw [Int.tdiv_eq_ediv_of_nonneg (by omega)]; omega
    have t2 : ((N : Int) + 256 - 1) / 256 = (p : Int) := by omega
    have HB := Lib.hid (fun W => spbuild_any (A : Int) (N : Int) (some ⟨w.heap.size, 0, none⟩) p p W)
    have HG := Lib.hid (And.intro gm (And.intro bm (And.intro hcs hcz)))
    have HP := Lib.hid hp
    have k1 : ¬ (N : Int) ≤ (A : Int) := by omega
    have k2 : ¬ (2048 : Int) < (N : Int) := by omega
    have k3 : ¬ (A : Int) < 0 := by omega
    clear gm bm hcs hcz hp hp'
    go_enter Try.func9, Try.ntmps9
    go_wp2_with fail
    refine (HB.out _).mono ?_
    rintro e w1 ⟨rfl, hb, g1⟩
    have hsz : (w.alloc (.cells cs 64)).heap.size = w.heap.size + 1 := by simp
    rw [hsz] at hb
    have hM : SpM w1 (w.heap.size + 1) w.heap.size (SpV.till A N A) := by
      have b2 := HG.out.2.1.keep g1 (fun h => h)
      refine ⟨SpV.till_ok h1 h2 (Nat.le_of_lt h1), ⟨p, by rw [HP.out]; exact Nat.le_refl _, by unfold maxLen; omega, by rw [HP.out]; exact hb⟩, b2.lt, ⟨fun _ => 0, wd_zero A N, fun j hj => ⟨?_, b2.free j⟩⟩, by omega⟩
      rw [HP.out] at hj
      exact b2.cell j (HG.out.2.2.2 j hj)
    have HM := Lib.hid (And.intro hM (HG.out.1.trans g1))
    obtain ⟨s, hs⟩ : ∃ s, w.heap.size + 1 = s := ⟨_, rfl⟩
    obtain ⟨g, hg⟩ : ∃ g, w.heap.size = g := ⟨_, rfl⟩
    have HS := Lib.hid (And.intro hs hg)
    rw [hs, hg] at HM
    rw [hsz, hs]
    clear hM hb g1 hs hg hsz HB HG
    go_wp2_with fail
    go_loopw [6] (fun i wr => ∃ k : Nat, A ≤ k ∧ k ≤ N ∧ i = .int .i64 (k : Nat) ∧ SpM wr s g (SpV.till A N k) ∧ Frm (fun _ => False) w wr) (fun i _ => N - (intOf i).toNat)
    case atStart => exact ⟨A, Nat.le_refl _, by omega, rfl, HM.out.1, HM.out.2⟩
    case round =>
      obtain ⟨k, hk1, hk2, rfl, hM, gr⟩ := hrel
      by_cases hlt : k < N
      · have hki : (k : Int) < (N : Int) := by omega
        have HF := Lib.hid (sflip_any s g k _ wr hM hk1 hlt)
        have GR := Lib.hid gr
        clear hM gr
        go_wp2_with fail
        refine HF.out.mono ?_
        rintro e w2 ⟨rfl, h3, g3⟩
        rw [SpV.till_succ hk1] at h3
        have H3 := Lib.hid (And.intro h3 (GR.out.next g3 fun q hq e => by have := HS.out.2; omega))
        clear h3 g3
        go_wp2_with fail
        go_roundw
        case rel => exact ⟨k + 1, by omega, by omega, by go_num, H3.out.1, H3.out.2⟩
        case measure => simp [intOf]; omega
      · obtain rfl : k = N := by omega
        have H3 := Lib.hid (And.intro hM gr)
        clear hM gr
        go_wp2_with fail
        go_ret
        exact ⟨_, rfl, s, g, rfl, by rw [← SpV.till_all]; exact H3.out.1, by have := HS.out; omega, by have := HS.out; omega, H3.out.2⟩
/-- All are used, one by one. -/
def SpV.loadU (S : SpV) : List Int → Option SpV
  | [] => some S
  | z :: t => if (S.use z).2 = 0 then SpV.loadU (S.use z).1 t else none
def LoadEnd (R : Option SpV) (w : World) (e : Ending) (w' : World) : Prop := match R with
  | some S => ∃ v, e = .returned (.tuple #[v, .int .i64 0]) ∧ NewSp S w v w'
  | none => e = .returned (.tuple #[.pointer none, .int .i64 4]) ∧ Frm (fun _ => False) w w'
/-- What Load answers. -/
def LoadTo (a n : Int) (l : List Int) (w : World) (e : Ending) (w' : World) : Prop :=
  if maySp a n then LoadEnd ((SpV.new a.toNat n.toNat).loadU l) w e w'
  else e = .returned (.tuple #[.pointer none, .int .i64 2]) ∧ w = w'
theorem SpV.loadU_step (S0 : SpV) (l : List Int) (k : Nat) (h : k < l.length) {S : SpV} (e : S0.loadU (l.take k) = some S) : S0.loadU (l.take (k + 1)) = if (S.use l[k]).2 = 0 then some (S.use l[k]).1 else none := by
  induction l generalizing S0 k with
  | nil => simp at h
  | cons z t ih =>
    cases k with
    | zero =>
      simp only [List.take_zero, SpV.loadU] at e
      cases e
      simp [SpV.loadU]
    | succ k =>
      simp only [List.take_succ_cons, SpV.loadU] at e ⊢
      by_cases hz : (S0.use z).2 = 0
      · rw [if_pos hz] at e ⊢
        rw [ih _ k (by simpa using h) e]
        rfl
      · rw [if_neg hz] at e
        cases e
theorem SpV.loadU_none (S0 : SpV) (l : List Int) (k : Nat) (e : S0.loadU (l.take k) = none) : S0.loadU l = none := by
  induction l generalizing S0 k with
  | nil => simpa using e
  | cons z t ih =>
    cases k with
    | zero => simp [SpV.loadU] at e
    | succ k =>
      simp only [List.take_succ_cons, SpV.loadU] at e ⊢
      by_cases hz : (S0.use z).2 = 0
      · rw [if_pos hz] at e ⊢
        exact ih _ k e
      · rw [if_neg hz]
set_option maxRecDepth 100000 in
set_option maxHeartbeats 4000000 in
theorem spload_any (a n : Int) (v : Value) (l : List Int) (w : World) (ha : Z64 a) (hn : Z64 n) (hv : Zs w v l) : Calls Try.prog 7 #[.int .i64 a, .int .i64 n, v] w (LoadTo a n l w) := by
  have hN := spnew_any a n w ha hn
  unfold NewSpTo at hN
  unfold LoadTo
  obtain ⟨ad, cap, rfl, hc1, hc2⟩ := hv.slice
  unfold maxLen at hc2
  cases hm : maySp a n with
  | false =>
    simp only [hm, Bool.false_eq_true, if_false] at hN
    simp only [Bool.false_eq_true, if_false]
    have HN := Lib.hid hN
    clear hN hm ha hn hv
    go_enter Try.func7, Try.ntmps7
    go_wp2_with fail
    refine HN.out.mono ?_
    rintro e w1 ⟨rfl, rfl⟩
    go_wp2_with fail
    go_ret2
    exact ⟨rfl, rfl⟩
  | true =>
    simp only [hm, if_true] at hN
    simp only [if_true]
    have HN := Lib.hid hN
    obtain ⟨S0, hS0⟩ : ∃ S0, SpV.new a.toNat n.toNat = S0 := ⟨_, rfl⟩
    rw [hS0] at HN ⊢
    obtain ⟨R, hR⟩ : ∃ R, S0.loadU l = R := ⟨_, rfl⟩
    rw [hR]
    have HR := Lib.hid hR
    clear hR
    have HV := Lib.hid hv
    have hll : l.length ≤ 9223372036854775807 := by omega
    clear hN hm ha hn hv hS0
    go_enter Try.func7, Try.ntmps7
    go_wp2_with fail
    refine HN.out.mono ?_
    rintro e w1 ⟨_, rfl, s, g, rfl, hM, hs, hg, g1⟩
    have HM := Lib.hid (And.intro hM g1)
    have HS := Lib.hid (And.intro hs hg)
    clear hM hs hg g1 HN
    go_wp2_with fail
    go_loopw [18, 10] (fun i x wr => ∃ (k : Nat) (S : SpV), k ≤ l.length ∧ i = .int .i64 (k : Nat) ∧ S0.loadU (l.take k) = some S ∧ SpM wr s g S ∧ Frm (fun _ => False) w wr) (fun i _ _ => l.length - (intOf i).toNat)
    case atStart => exact ⟨0, S0, Nat.zero_le _, rfl, by simp [SpV.loadU], HM.out.1, HM.out.2⟩
    case round =>
      obtain ⟨k, S, hk, rfl, hl, hM, gr⟩ := hrel
      by_cases hlt : k < l.length
      · have hki : (k : Int) < (l.length : Int) := by omega
        obtain ⟨gb, off, rfl, hgb, c0⟩ := Zs.at (HV.out.keepF gr) k hlt
        have hu := spuse_any s g S l[k] wr hM
        have hst := S0.loadU_step l k hlt hl
        unfold SpTo at hu
        obtain ⟨⟨S1, ec⟩, hr⟩ : ∃ r, S.use l[k] = r := ⟨_, rfl⟩
        rw [hr] at hu hst
        have HU := Lib.hid hu
        have GR := Lib.hid gr
        have hec : ec = 0 ∨ ¬ ec = 0 := by omega
        rcases hec with rfl | hec
        · rw [if_pos rfl] at hst
          have HST := Lib.hid hst
          clear hu hst hr hM gr hl
          go_wp2_with fail
          refine HU.out.mono ?_
          rintro e w2 ⟨rfl, h3, g3⟩
          have H3 := Lib.hid (And.intro h3 (GR.out.next g3 fun q hq e => by have := HS.out.2; omega))
          clear h3 g3
          go_wp2_with fail
          go_roundw
          case rel => exact ⟨k + 1, S1, by omega, by go_num, HST.out, H3.out.1, H3.out.2⟩
          case measure => simp [intOf]; omega
        · rw [if_neg hec] at hst
          have HST := Lib.hid (S0.loadU_none l _ hst)
          have hez : ((ec : Int) != 0) = true := by rw [bne_iff_ne]; omega
          have hez2 : ((ec : Int) == 0) = false := by rw [beq_eq_false_iff_ne]; omega
          clear hu hst hr hM gr hl hec
          go_wp2_with fail
          refine HU.out.mono ?_
          rintro e w2 ⟨rfl, h3, g3⟩
          have G3 := Lib.hid (GR.out.next g3 fun q hq e => by have := HS.out.2; omega)
          clear h3 g3
          go_wp2_with fail
          go_ret2
          rw [← HR.out, HST.out]
          exact ⟨rfl, G3.out⟩
      · obtain rfl : k = l.length := by omega
        rw [List.take_length] at hl
        have HL := Lib.hid hl
        have H3 := Lib.hid (And.intro hM gr)
        clear hM gr hl
        go_wp2_with fail
        go_ret2
        rw [← HR.out, HL.out]
        exact ⟨_, rfl, s, g, rfl, H3.out.1, HS.out.1, HS.out.2, H3.out.2⟩
end Go.Proofs.Ytdhnidmeeocajaa
