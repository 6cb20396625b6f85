/- What the functions of package region that make and read blocks answer. No condition. -/
import Derived.Test.YtfbaleomhghjeaaGreatRgA
import Derived.Test.YtfbaleomhghjeaaGreatCodecV
import Derived.Test.YtfbaleomhghjeaaGreatRefR
import Derived.LoopN
namespace Go.Proofs.YtfbaleomhghjeaaGreat
open Go.RowKit Go.Shelf

theorem needs_int (n : Int) : ((needs n.toNat : Nat) : Int) = (max n 1 - 1).tdiv 58 + 1 := by
  unfold needs
  rw [Int.tdiv_eq_ediv_of_nonneg (by omega)]
  omega
set_option maxRecDepth 100000 in
set_option maxHeartbeats 1000000 in
theorem needs_any (n : Int) (w : World) (h : Z64 n) :
    Calls Tryz.prog 21 #[.int .i64 n] w fun e w' => e = .returned (.int .i64 (needs n.toNat : Nat)) ∧ w = w' := by
  have hn := needs_int n
  have h1 : IntKind.i64.wrap (max n 1 - 1) = max n 1 - 1 := IntWalk.i64_in _ (by unfold Z64 at h; omega)
  have h2 : IntKind.i64.wrap ((max n 1 - 1).tdiv 58) = (max n 1 - 1).tdiv 58 := IntWalk.i64_in _ (by rw [Int.tdiv_eq_ediv_of_nonneg (by omega)]; unfold Z64 at h; omega)
  have h3 : IntKind.i64.wrap ((max n 1 - 1).tdiv 58 + 1) = (max n 1 - 1).tdiv 58 + 1 := IntWalk.i64_in _ (by rw [Int.tdiv_eq_ediv_of_nonneg (by omega)]; unfold Z64 at h; omega)
  go_enter Tryz.func21, Tryz.ntmps21
  go_wp2_with fail
  go_ret
  exact ⟨by rw [hn]; rfl, rfl⟩
set_option maxRecDepth 100000 in
set_option maxHeartbeats 1000000 in
theorem rgzeros_any (c : Nat) (w : World) (hc : c ≤ 64) : Calls Tryz.prog 96 #[.int .i64 (c : Nat)] w fun e w' => e = .returned (.string (bs (nul c))) ∧ Frm (fun _ => False) w w' := by
  have HZ := Lib.hid (zeros_any c w hc)
  go_enter Tryz.func96, Tryz.ntmps96
  go_wp2_with fail
  refine HZ.out.mono ?_
  rintro e w1 ⟨rfl, g⟩
  go_wp2_with fail
  go_ret
  exact ⟨rfl, g⟩
set_option maxRecDepth 100000 in
set_option maxHeartbeats 1000000 in
theorem blank_any (s : List UInt8) (w : World) (hs : s.length ≤ 64) : Calls Tryz.prog 125 #[.string (bs s)] w fun e w' => e = .returned (.bool (decide (s = nul s.length))) ∧ Frm (fun _ => False) w w' := by
  have HZ := rgzeros_any s.length w hs
  have hsz : (bs s).size = s.length := rfl
  obtain ⟨n, hn⟩ : ∃ n, s.length = n := ⟨_, rfl⟩
  rw [hn] at HZ hs hsz ⊢
  have HZ := Lib.hid HZ
  have hb : ((bs s).toList == (bs (nul n)).toList) = decide (s = nul n) := by
    rw [bs_toList, bs_toList]
    rw [Bool.eq_iff_iff]
    simp
  clear hn
  go_enter Tryz.func125, Tryz.ntmps125
  go_wp2_with fail
  refine HZ.out.mono ?_
  rintro e w1 ⟨rfl, g⟩
  go_wp2_with fail
  go_ret
  exact ⟨rfl, g⟩
/-- A writer that a call made. -/
structure OwnW (w W : World) (b : Nat) (s : List UInt8) : Prop where
  wr : ∃ fp, Wr W b s fp ∧ ∀ k ∈ fp, w.heap.size ≤ k
  frm : Frm (fun _ => False) w W
theorem OwnW.start (w : World) : OwnW w (w.alloc (.cells #[.pointer none, .int .i64 0] 146)) w.heap.size [] :=
  ⟨⟨[w.heap.size], Wr.zero (Blk.alloc w _ _), fun k hk => by rw [List.mem_singleton.1 hk]; exact Nat.le_refl _⟩, (Frm.refl _ w).alloc _⟩
theorem OwnW.via {w W : World} {b : Nat} {s t : List UInt8} (h : OwnW w W b s) {F : FuncId} {args : Array Value} (hc : ∀ fp, Wr W b s fp → Calls Tryz.prog F args W (WrTo b t fp W)) :
    Calls Tryz.prog F args W fun e W' => e = .returned (.tuple #[]) ∧ OwnW w W' b t := by
  obtain ⟨⟨fp, h1, h2⟩, h3⟩ := h
  refine (hc fp h1).mono ?_
  rintro e W' ⟨rfl, fp', k1, k2, k3⟩
  exact ⟨rfl, ⟨fp', k1, fun k hk => (k3 k hk).elim (h2 k) fun e => Nat.le_trans h3.size e⟩, h3.next k2 fun k hk hY => by have := h2 k hY; omega⟩
theorem OwnW.keepF {w W W' : World} {b : Nat} {s : List UInt8} (h : OwnW w W b s) (g : Frm (fun _ => False) W W') : OwnW w W' b s := by
  obtain ⟨⟨fp, h1, h2⟩, h3⟩ := h
  exact ⟨⟨fp, h1.keep g (fun _ _ h => h), h2⟩, h3.trans g⟩
theorem OwnW.raw {w W : World} {b : Nat} {s : List UInt8} (h : OwnW w W b s) (t : List UInt8) (hl : s.length ≤ 1000000) (ht : t.length ≤ 1000000) :
    Calls Tryz.prog 95 #[.pointer (some ⟨b, 0, none⟩), .string (bs t)] W fun e W' => e = .returned (.tuple #[]) ∧ OwnW w W' b (s ++ t) :=
  h.via fun fp h1 => (raw_any b s t fp W h1 (by omega)).mono fun _ _ ⟨a, b⟩ => ⟨a, b⟩
theorem OwnW.u8 {w W : World} {b : Nat} {s : List UInt8} (h : OwnW w W b s) (n : Nat) (hn : n < 256) (hl : s.length ≤ 1000000) :
    Calls Tryz.prog 121 #[.pointer (some ⟨b, 0, none⟩), .int .u8 (n : Nat)] W fun e W' => e = .returned (.tuple #[]) ∧ OwnW w W' b (s ++ beB 1 n) :=
  h.via fun fp h1 => wu8_any b s fp n hn W h1 (by omega)
theorem OwnW.u16 {w W : World} {b : Nat} {s : List UInt8} (h : OwnW w W b s) (n : Nat) (hn : n < 65536) (hl : s.length ≤ 1000000) :
    Calls Tryz.prog 120 #[.pointer (some ⟨b, 0, none⟩), .int .u16 (n : Nat)] W fun e W' => e = .returned (.tuple #[]) ∧ OwnW w W' b (s ++ beB 2 n) :=
  h.via fun fp h1 => wu16_any b s fp n hn W h1 (by omega)
theorem OwnW.u32 {w W : World} {b : Nat} {s : List UInt8} (h : OwnW w W b s) (n : Nat) (hn : n < 4294967296) (hl : s.length ≤ 1000000) :
    Calls Tryz.prog 94 #[.pointer (some ⟨b, 0, none⟩), .int .u32 (n : Nat)] W fun e W' => e = .returned (.tuple #[]) ∧ OwnW w W' b (s ++ beB 4 n) :=
  h.via fun fp h1 => wu32_any b s fp n hn W h1 (by omega)
theorem OwnW.bytes {w W : World} {b : Nat} {s : List UInt8} (h : OwnW w W b s) :
    Calls Tryz.prog 97 #[.pointer (some ⟨b, 0, none⟩)] W fun e W' => e = .returned (.string (bs s)) ∧ Frm (fun _ => False) w W' := by
  obtain ⟨⟨fp, h1, h2⟩, h3⟩ := h
  exact (bytes_any b s fp W h1).mono fun e W' ⟨a1, a2⟩ => ⟨a1, h3.trans a2⟩
set_option maxRecDepth 100000 in
set_option maxHeartbeats 2000000 in
theorem header_any (g : Nat) (w : World) (hg : g < 4294967296) : Calls Tryz.prog 67 #[.int .u32 (g : Nat)] w fun e w' => e = .returned (.string (bs (hdB g))) ∧ Frm (fun _ => False) w w' := by
  have h0 := OwnW.start w
  have H1 := Lib.hid (h0.u32 g hg (by decide))
  clear h0
  go_enter Tryz.func67, Tryz.ntmps67
  go_wp2_with fail
  refine H1.out.mono ?_
  rintro e w1 ⟨rfl, h1⟩
  have HZ := Lib.hid (rgzeros_any 56 w1 (by decide))
  have H1' := Lib.hid h1
  clear h1 H1
  go_wp2_with fail
  refine HZ.out.mono ?_
  rintro e w2 ⟨rfl, g2⟩
  have H2 := Lib.hid ((H1'.out.keepF g2).raw (nul 56) (by simp [beB_len]) (by rw [nul_len]; decide))
  clear g2 HZ H1'
  go_wp2_with fail
  refine H2.out.mono ?_
  rintro e w3 ⟨rfl, h3⟩
  have H3 := Lib.hid (h3.u32 g hg (by simp [beB_len, nul_len]))
  clear h3 H2
  go_wp2_with fail
  refine H3.out.mono ?_
  rintro e w4 ⟨rfl, h4⟩
  have H4 := Lib.hid h4.bytes
  clear h4 H3
  go_wp2_with fail
  refine H4.out.mono ?_
  rintro e w5 ⟨rfl, g5⟩
  have G5 := Lib.hid g5
  clear g5 H4
  go_wp2_with fail
  go_ret
  exact ⟨rfl, G5.out⟩
set_option maxRecDepth 100000 in
set_option maxHeartbeats 2000000 in
theorem logBlock_any (i : Nat) (s : List UInt8) (last : Bool) (w : World) (hi : i < 65536) (hs : s.length ≤ 58) : Calls Tryz.prog 93 #[.int .i64 (i : Nat), .string (bs s), .bool last] w fun e w' => e = .returned (.string (bs (logB i (if last then 1 else 0) s))) ∧ Frm (fun _ => False) w w' := by
  have h0 := OwnW.start w
  have H1 := Lib.hid (h0.u16 i hi (by decide))
  have hw16 : IntKind.u16.wrap (i : Int) = (i : Int) := IntWalk.u16_in _ (by omega)
  have hsz : (bs s).size = s.length := rfl
  have hw8 : IntKind.u8.wrap (s.length : Int) = (s.length : Int) := IntWalk.u8_in _ (by omega)
  have hsub : (58 : Int) - (s.length : Int) = ((58 - s.length : Nat) : Int) := by omega
  have hws : IntKind.i64.wrap ((58 - s.length : Nat) : Int) = ((58 - s.length : Nat) : Int) := IntWalk.i64_in _ (by omega)
  obtain ⟨n, hn⟩ : ∃ n, s.length = n := ⟨_, rfl⟩
  have HN := Lib.hid hn
  rw [hn] at hs hsz hw8 hsub hws
  obtain ⟨m, hm⟩ : ∃ m, 58 - n = m := ⟨_, rfl⟩
  have HM := Lib.hid hm
  rw [hm] at hsub hws
  have hm64 : m ≤ 64 := by omega
  clear h0 hn hm
  go_enter Tryz.func93, Tryz.ntmps93
  go_wp2_with fail
  refine H1.out.mono ?_
  rintro e w1 ⟨rfl, h1⟩
  have HF1 := Lib.hid (h1.u8 1 (by decide) (by simp [beB_len]))
  have HF0 := Lib.hid (h1.u8 0 (by decide) (by simp [beB_len]))
  clear h1 H1
  cases last with
  | true =>
    clear HF0
    go_wp2_with fail
    refine HF1.out.mono ?_
    rintro e w2 ⟨rfl, h2⟩
    have H2 := h2.u8 n (by omega) (by simp [beB_len])
    have H2 := Lib.hid H2
    clear h2
    go_wp2_with fail
    refine H2.out.mono ?_
    rintro e w3 ⟨rfl, h3⟩
    have H3 := Lib.hid (h3.raw s (by simp [beB_len]) (by rw [HN.out]; omega))
    clear h3 H2
    go_wp2_with fail
    refine H3.out.mono ?_
    rintro e w4 ⟨rfl, h4⟩
    have H4 := Lib.hid h4
    have HZ := Lib.hid (rgzeros_any m w4 hm64)
    clear h4 H3
    go_wp2_with fail
    refine HZ.out.mono ?_
    rintro e w5 ⟨rfl, g5⟩
    have H5 := Lib.hid ((H4.out.keepF g5).raw (nul m) (by simp [beB_len]; rw [HN.out]; omega) (by rw [nul_len]; omega))
    clear g5 HZ H4
    go_wp2_with fail
    refine H5.out.mono ?_
    rintro e w6 ⟨rfl, h6⟩
    have H6 := Lib.hid (h6.u16 i hi (by simp [beB_len, nul_len]; rw [HN.out]; omega))
    clear h6 H5
    go_wp2_with fail
    refine H6.out.mono ?_
    rintro e w7 ⟨rfl, h7⟩
    have H7 := Lib.hid h7.bytes
    clear h7 H6
    go_wp2_with fail
    refine H7.out.mono ?_
    rintro e w8 ⟨rfl, g8⟩
    have G8 := Lib.hid g8
    clear g8 H7
    go_wp2_with fail
    go_ret
    refine ⟨?_, G8.out⟩
    unfold logB
    rw [HN.out, HM.out]
    rfl
  | false =>
    clear HF1
    go_wp2_with fail
    refine HF0.out.mono ?_
    rintro e w2 ⟨rfl, h2⟩
    have H2 := h2.u8 n (by omega) (by simp [beB_len])
    have H2 := Lib.hid H2
    clear h2
    go_wp2_with fail
    refine H2.out.mono ?_
    rintro e w3 ⟨rfl, h3⟩
    have H3 := Lib.hid (h3.raw s (by simp [beB_len]) (by rw [HN.out]; omega))
    clear h3 H2
    go_wp2_with fail
    refine H3.out.mono ?_
    rintro e w4 ⟨rfl, h4⟩
    have H4 := Lib.hid h4
    have HZ := Lib.hid (rgzeros_any m w4 hm64)
    clear h4 H3
    go_wp2_with fail
    refine HZ.out.mono ?_
    rintro e w5 ⟨rfl, g5⟩
    have H5 := Lib.hid ((H4.out.keepF g5).raw (nul m) (by simp [beB_len]; rw [HN.out]; omega) (by rw [nul_len]; omega))
    clear g5 HZ H4
    go_wp2_with fail
    refine H5.out.mono ?_
    rintro e w6 ⟨rfl, h6⟩
    have H6 := Lib.hid (h6.u16 i hi (by simp [beB_len, nul_len]; rw [HN.out]; omega))
    clear h6 H5
    go_wp2_with fail
    refine H6.out.mono ?_
    rintro e w7 ⟨rfl, h7⟩
    have H7 := Lib.hid h7.bytes
    clear h7 H6
    go_wp2_with fail
    refine H7.out.mono ?_
    rintro e w8 ⟨rfl, g8⟩
    have G8 := Lib.hid g8
    clear g8 H7
    go_wp2_with fail
    go_ret
    refine ⟨?_, G8.out⟩
    unfold logB
    rw [HN.out, HM.out]
    rfl
end Go.Proofs.YtfbaleomhghjeaaGreat

