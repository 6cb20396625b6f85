/- What the library makes of numbers and digits: FormatUint and ParseUint at base 10; path.digits. Conditions: the tables and errors of strconv lie as the program's text lays them (Vars). -/
import Derived.Test.YtiokabhidjafeaaDoorStrL
import Derived.Lib.ItoaMem
import Derived.Lib.AppendIntMem
import Derived.Lib.ItoaNum
import Derived.Lib.ParseIntBCases
import Derived.Lib.LaidTab
namespace Go.Proofs.YtiokabhidjafeaaDoor
open Go.RowKit

theorem dec_digs (n : Nat) : Lib.decDigits n = digs n := by
  induction n using Nat.strongRecOn with
  | _ n ih =>
    rw [Lib.decDigits, digs]
    by_cases h : n < 10
    · rw [dif_pos h, if_pos h]; rfl
    · rw [dif_neg h, if_neg h, ih (n / 10) (by omega)]; rfl

/-- What the package-level variables of strconv hold. -/
structure VarT (w : World) : Prop where
  tab : Lib.TabIs Tryd.prog w "internal/strconv.uint64pow10" .u64 Lib.pow10Tab
/-- What lies so beside the table: both errors. -/
structure Vars (w : World) : Prop extends VarT w where
  syn : ∃ tp p, w.var? Tryd.prog "strconv.ErrSyntax" = some #[.iface tp p]
  rng : ∃ tp p, w.var? Tryd.prog "strconv.ErrRange" = some #[.iface tp p]
theorem var_frm {P : Program} {w w' : World} {n : String} {cs : Array Value} (h : w.var? P n = some cs) (f : Frm (fun _ => False) w w') : w'.var? P n = some cs := by
  unfold World.var? at h ⊢
  cases hg : P.globalNamed n with
  | none => simp [hg] at h
  | some g =>
    simp only [hg, Option.bind_some] at h ⊢
    have hlt : g < w.heap.size := by
      rcases Nat.lt_or_ge g w.heap.size with h' | h'
      · exact h'
      · simp [Array.getElem?_eq_none h'] at h
    rw [f.block g hlt (fun h => h)]
    exact h
theorem VarT.keep {w w' : World} (h : VarT w) (f : Frm (fun _ => False) w w') : VarT w' := by
  obtain ⟨t⟩ := h
  exact ⟨var_frm t f⟩
theorem Vars.keep {w w' : World} (h : Vars w) (f : Frm (fun _ => False) w w') : Vars w' := by
  obtain ⟨⟨t⟩, ⟨a, p, s⟩, ⟨b, q, r⟩⟩ := h
  exact ⟨⟨var_frm t f⟩, ⟨a, p, var_frm s f⟩, ⟨b, q, var_frm r f⟩⟩
/-- The world behind a call: nothing that lay has turned. -/
abbrev Fr (w w' : World) : Prop := Frm (fun _ => False) w w'

theorem holds_zero0 (w : World) (T : TypeId) (nd : Nat) (hs : nd ≤ 24) : Sort.Holds (fun (b : UInt8) => Value.int .u8 (b.toNat : Int)) (w.alloc (.cells Lib.zeros24 T)) w.heap.size 0 (Array.replicate nd (0 : UInt8)) := fun j hj => by
  have hj' : j < nd := by simpa using hj
  refine ⟨?_, World.frozen?_alloc_new _ _ _ _⟩
  rw [World.cell?_alloc_new, Lib.zeros24_at _ (by omega), getElem!_pos _ j hj]
  simp
theorem frm_grow (w : World) (k : Nat) (os : Array Obj) : Fr w (Sort.grow (w.drewN k) os) :=
  ⟨rfl, rfl, rfl, by simp [Sort.grow], fun j hj _ => by simp only [Sort.grow]; exact Array.getElem?_append_left hj⟩

set_option maxHeartbeats 4000000 in
set_option maxRecDepth 100000 in
theorem format_any (u : Nat) (w : World) (hv : VarT w) (hu : u ≤ 4294967295) :
    Calls Tryd.prog 112 #[.int .u64 u, .int .i64 10] w fun e w' => e = .returned (.string (bs (digs u))) ∧ Fr w w' := by
  by_cases hs : u < 100
  · have h0 : (u : Int) < 100 := by omega
    have hsm := fun w => Tryd.internal_strconv_small u hs w
    rw [dec_digs] at hsm
    have Hsm := Lib.hid hsm
    clear hsm
    go_enter Tryd.func112, Tryd.ntmps112
    go_wp2_with fail
    refine (Hsm.out _).mono ?_
    rintro e w1 ⟨rfl, rfl⟩
    go_wp2_with fail
    go_ret
    exact ⟨rfl, Frm.refl _ _⟩
  · have h0 : (100 : Int) ≤ u := by omega
    have hu1 : 1 ≤ u := by omega
    have hu64 : u < 18446744073709551616 := by omega
    have hnd20 : Lib.nDigits u ≤ 20 := by have := Lib.numDigits_eq u hu1 hu64; split at this <;> omega
    have hal : Tryd.prog.arrayLen 187 = 24 := by simp [Program.arrayLen, Tryd.underlying187]
    have hsl1 : ∀ W, (Instr.sliceAt 187 (.pointer (some ⟨w.heap.size, 0, none⟩)) none (some (.int .i64 (Lib.nDigits u : Int))) none).run Tryd.prog W = .ok (.slice (some ⟨w.heap.size, 0, none⟩) (Lib.nDigits u) 24) W := fun W => by
      rw [run_sliceAt_array_h W 187 ⟨w.heap.size, 0, none⟩ (by simp [Program.arrayLen, Program.elem, Tryd.underlying187]) .i64 (Lib.nDigits u : Int) (by omega) (by rw [hal]; omega)]
      go_simp
    have hH0 := holds_zero0 w 187 (Lib.nDigits u) (by omega)
    have hfmt := Tryd.internal_strconv_formatBase10 w.heap.size 0 24 u (Array.replicate (Lib.nDigits u) 0) (w.alloc (.cells Lib.zeros24 187)) hH0 (by rw [Array.size_replicate]; exact Lib.lt_pow_nDigits u) hu64 (by rw [Array.size_replicate]; omega)
    rw [Array.size_replicate] at hfmt
    have HH0 := Lib.hid hH0
    have Hfmt := Lib.hid hfmt
    clear hH0 hal hfmt
    go_enter Tryd.func112, Tryd.ntmps112
    go_wp2_with fail
    refine (Tryd.internal_strconv_numDigits u hu1 hu64 _ (Lib.tabIs_alloc hv.tab _)).mono ?_
    rintro e w1 ⟨rfl, rfl⟩
    go_wp2_with fail
    refine Hfmt.out.mono ?_
    rintro e w1 ⟨rfl, k, v', dk, rfl, hF⟩
    have hcv : (convert 140 9 (.slice (some ⟨w.heap.size, 0, none⟩) (Lib.nDigits u) 24)).run Tryd.prog ((Sort.putRow (fun (b : UInt8) => Value.int .u8 (b.toNat : Int)) (w.alloc (.cells Lib.zeros24 187)) w.heap.size 0 dk).drewN k) = .ok (.string ⟨(Lib.decDigits u).toArray⟩) ((Sort.putRow (fun (b : UInt8) => Value.int .u8 (b.toNat : Int)) (w.alloc (.cells Lib.zeros24 187)) w.heap.size 0 dk).drewN k) := by
      have h := run_convert_bytes_back (P := Tryd.prog) ((Sort.putRow (fun (b : UInt8) => Value.int .u8 (b.toNat : Int)) (w.alloc (.cells Lib.zeros24 187)) w.heap.size 0 dk).drewN k) 140 9 5 ⟨w.heap.size, 0, none⟩ 24 (Lib.decDigits u) Tryd.underlying140 Tryd.underlying5 Tryd.underlying9 (fun j hj => by
        rw [Lib.row_is_numeral hF j hj, Lib.add_plain, World.cell?_drewN]
        exact Sort.cell?_putRow (fun (b : UInt8) => Value.int .u8 (b.toNat : Int)) _ w.heap.size 0 _ dk HH0.out (by rw [hF.size, Array.size_replicate]) j (by rw [hF.size]; rw [Lib.decDigits_length] at hj; exact hj))
      rw [Lib.decDigits_length] at h
      exact h
    have hfr : Fr w ((Sort.putRow (fun (b : UInt8) => Value.int .u8 (b.toNat : Int)) (w.alloc (.cells Lib.zeros24 187)) w.heap.size 0 dk).drewN k) := by
      obtain ⟨os, eo⟩ := Lib.fin_at w (.cells Lib.zeros24 187) dk k 0
      rw [eo]
      exact frm_grow w k os
    generalize ((Sort.putRow (fun (b : UInt8) => Value.int .u8 (b.toNat : Int)) (w.alloc (.cells Lib.zeros24 187)) w.heap.size 0 dk).drewN k) = w2 at *
    clear Hfmt HH0 hF
    rw [dec_digs] at hcv
    go_wp2
    go_ret
    exact ⟨rfl, hfr⟩

/-- A number's digits. -/
theorem digits_any (u : Nat) (w : World) (hv : VarT w) (hu : u ≤ 4294967295) :
    Calls Tryd.prog 68 #[.int .u32 u] w fun e w' => e = .returned (.string (bs (digs u))) ∧ Fr w w' := by
  have hf : Calls Tryd.prog 86 #[.int .u64 u, .int .i64 10] w fun e w' => e = .returned (.string (bs (digs u))) ∧ Fr w w' := by
    go_enter Tryd.func86, Tryd.ntmps86
    go_wp2_with fail
    refine (format_any u _ hv hu).mono ?_
    rintro e w1 ⟨rfl, f1⟩
    go_wp2_with fail
    go_ret
    exact ⟨rfl, f1⟩
  go_enter Tryd.func68, Tryd.ntmps68
  go_wp2_with fail
  refine hf.mono ?_
  rintro e w1 ⟨rfl, f1⟩
  go_wp2_with fail
  go_ret
  exact ⟨rfl, f1⟩

/-- A text is read as a number: some number below 2^32, and the one that its digits are, if they are that number's. -/
def Num32 (s : List UInt8) (w : World) (e : Ending) (w' : World) : Prop := ∃ (u : Nat) (x : Value), e = .returned (.tuple #[.int .u64 u, x]) ∧ u ≤ 4294967295 ∧ (∀ n, n ≤ 65535 → s = digs n → u = n) ∧ Fr w w'
def Num8 (s : List UInt8) (w : World) (e : Ending) (w' : World) : Prop := ∃ (u : Nat) (x : Value), e = .returned (.tuple #[.int .u64 u, x]) ∧ u ≤ 255 ∧ (∀ n, n ≤ 7 → s = digs n → u = n) ∧ Fr w w'
theorem parseM_digits (M : Nat) (hM : M ≤ 4294967295) : ∀ (l : List UInt8) (acc : Nat), l.all isd = true → l.foldl (fun n c => n * 10 + (c.toNat - 48)) acc ≤ M → Lib.parseUintM M acc l = .ok (l.foldl (fun n c => n * 10 + (c.toNat - 48)) acc)
  | [], acc, _, _ => rfl
  | c :: r, acc, hd, hM2 => by
    rw [List.all_cons, Bool.and_eq_true] at hd
    have h1 : 48 ≤ c.toNat ∧ c.toNat ≤ 57 := by simpa [isd] using hd.1
    rw [List.foldl_cons] at hM2
    have hge : ∀ (l : List UInt8) (a : Nat), a ≤ l.foldl (fun n c => n * 10 + (c.toNat - 48)) a := by
      intro l
      induction l with
      | nil => intro a; exact Nat.le_refl _
      | cons x l ih => intro a; rw [List.foldl_cons]; exact Nat.le_trans (by omega) (ih _)
    have h2 := hge r (acc * 10 + (c.toNat - 48))
    rw [Lib.parseUintM, if_pos h1, if_neg (by omega), if_neg (by omega), List.foldl_cons]
    exact parseM_digits M hM r _ hd.2 hM2
theorem parse_digs (B n : Nat) (hB : 2 ^ B - 1 ≤ 4294967295) (h : n ≤ 2 ^ B - 1) : Lib.parseUintB B (digs n) = .ok n := by
  obtain ⟨h1, h2, h3⟩ := digs_spec n
  have h4 := parseM_digits (2 ^ B - 1) hB (digs n) 0 h2 (by show val (digs n) ≤ _; rw [h1]; exact h)
  unfold Lib.parseUintB
  rw [if_neg h3, h4]
  exact congrArg _ h1
theorem frm_or {w w' : World} {t : TypeId} {s : ByteArray} (h : w' = w ∨ w' = Lib.bytesWorld w t s) : Fr w w' := by
  rcases h with rfl | rfl
  · exact Frm.refl _ _
  · exact ⟨rfl, rfl, rfl, by rw [Lib.bytesWorld_size]; omega, fun k hk _ => Lib.bytesWorld_at_old w t s k hk⟩
theorem fr_below {w w' : World} (h : Below w.heap.size w w') : Fr w w' := (Frm.ofBelow h).mono fun k hk h => by omega
theorem num32_any (s : List UInt8) (w : World) (hv : Vars w) (hl : s.length ≤ 1000000) : Calls Tryd.prog 67 #[.string (bs s), .int .i64 10, .int .i64 32] w (Num32 s w) := by
  obtain ⟨_, ⟨tp, p, hs⟩, ⟨tq, q, hr⟩⟩ := hv
  cases h : Lib.parseUintB 32 s with
  | ok u => exact (Tryd.strconv_ParseUint_10_at32_ok (bs s) (by rw [bs_size]; omega) u h w).mono fun e w' ⟨h1, h2⟩ => ⟨u, _, h1, Lib.parseUintB_le h, (fun n hn e => by rw [e, parse_digs 32 n (by decide) (by omega)] at h; cases h; rfl), frm_or h2⟩
  | range => exact (Tryd.strconv_ParseUint_10_at32_range_var (bs s) (by rw [bs_size]; omega) h tq q w hr).mono fun e w' ⟨N, h1, _, _, h2⟩ => ⟨4294967295, _, h1, by omega, (fun n hn e => by rw [e, parse_digs 32 n (by decide) (by omega)] at h; cases h), fr_below h2⟩
  | _ => exact Calls.mono (show Calls Tryd.prog 67 #[.string (bs s), .int .i64 10, .int .i64 32] w _ from Any.strconv_ParseUint_10_at32_syntax_var Tryd.laysPu14 (bs s) (by rw [bs_size]; omega) h tp p w hs) fun e w' ⟨N, h1, _, _, h2⟩ => ⟨0, _, h1, by omega, (fun n hn e => by rw [e, parse_digs 32 n (by decide) (by omega)] at h; cases h), fr_below h2⟩
theorem num8_any (s : List UInt8) (w : World) (hv : Vars w) (hl : s.length ≤ 1000000) : Calls Tryd.prog 67 #[.string (bs s), .int .i64 10, .int .i64 8] w (Num8 s w) := by
  obtain ⟨_, ⟨tp, p, hs⟩, ⟨tq, q, hr⟩⟩ := hv
  cases h : Lib.parseUintB 8 s with
  | ok u => exact (Tryd.strconv_ParseUint_10_at8_ok (bs s) (by rw [bs_size]; omega) u h w).mono fun e w' ⟨h1, h2⟩ => ⟨u, _, h1, Lib.parseUintB_le h, (fun n hn e => by rw [e, parse_digs 8 n (by decide) (by omega)] at h; cases h; rfl), frm_or h2⟩
  | range => exact (Tryd.strconv_ParseUint_10_at8_range_var (bs s) (by rw [bs_size]; omega) h tq q w hr).mono fun e w' ⟨N, h1, _, _, h2⟩ => ⟨255, _, h1, by omega, (fun n hn e => by rw [e, parse_digs 8 n (by decide) (by omega)] at h; cases h), fr_below h2⟩
  | _ => exact Calls.mono (show Calls Tryd.prog 67 #[.string (bs s), .int .i64 10, .int .i64 8] w _ from Any.strconv_ParseUint_10_at8_syntax_var Tryd.laysPu14 (bs s) (by rw [bs_size]; omega) h tp p w hs) fun e w' ⟨N, h1, _, _, h2⟩ => ⟨0, _, h1, by omega, (fun n hn e => by rw [e, parse_digs 8 n (by decide) (by omega)] at h; cases h), fr_below h2⟩
end Go.Proofs.YtiokabhidjafeaaDoor

