/- DedupOnce answers true, of any texts (mkddonce.py wrote it). No condition. -/
import Derived.Test.YtjodkgbpbibfbaaDdKm
namespace Go.Proofs.Ytjodkgbpbibfbaa
open Go.RowKit

/-- What a round begins with. -/
structure OnS (w0 w : World) (b k gr : Nat) (T : TbV) (A : List HdV) (v : Value) (fp : Nat → Prop) : Prop where
  m : MemS w0 w b T A v fp
  i : OnI T A
  n : A.length ≤ k
  nx : T.nx ≤ k + 1
  gr : gr < T.nx
  s : ∀ x ∈ A, 1 ≤ x.s.length ∧ x.s.length ≤ 64 ∧ x.r ≤ k
theorem OnS.kept {w0 w : World} {b k gr : Nat} {T : TbV} {A : List HdV} {v : Value} {fp : Nat → Prop} (h : OnS w0 w b k gr T A v fp) (hk : k ≤ 41) :
    Calls Try.prog 22 #[.pointer (some ⟨b, 0, none⟩), v] w fun e w' => e = .returned (.bool true) ∧ OnS w0 w' b k gr T A v fp :=
  (kept_any b T fp v A w h.m.t h.m.o h.i (by have := h.n; omega) (fun x hx => by have := (h.s x hx).2.1; omega)).mono fun e w' ⟨h1, h2⟩ => ⟨h1, h.m.keepF h2, h.i, h.n, h.nx, h.gr, h.s⟩
theorem set_snoc {α : Type} (A : List α) (y u : α) : (A ++ [y]).set A.length u = A ++ [u] := by
  simp
theorem set_all {A : List HdV} {j : Nat} {x : HdV} {p : HdV → Prop} (h : ∀ y ∈ A, p y) (hx : p x) : ∀ y ∈ A.set j x, p y := fun y hy => by
  rcases List.mem_or_eq_of_mem_set hy with h1 | h1
  · exact h y h1
  · rw [h1]; exact hx
theorem OnI.at_live {T : TbV} {A : List HdV} (h : OnI T A) {k : Nat} (hk : k < A.length) (hr : 0 < A[k].r) : ∃ j, T.at A[k].id = some j ∧ ∃ hj : j < T.L.length, T.L[j] = A[k].ch := by
  have hm := h.live (List.getElem_mem hk) hr
  obtain ⟨q, hq, e⟩ := List.getElem_of_mem hm
  exact ⟨q, TbV.at_of h.ok hq (by rw [e]; rfl), hq, e⟩
/-- One reference less, or none. -/
theorem OnI.release {T : TbV} {A : List HdV} (h : OnI T A) {k : Nat} (hk : k < A.length) (hr : 0 < A[k].r) : ∃ T', T.rel A[k].id = (T', decide (A[k].r - 1 = 0), 0) ∧ OnI T' (A.set k { A[k] with r := A[k].r - 1 }) ∧ T'.nx = T.nx := by
  obtain ⟨j, hat, hj, he⟩ := h.at_live hk hr
  have h2 := h.ok.ch _ (List.getElem_mem hj)
  have hr2 := h2.r2
  rw [he] at hr2
  have hr2 : A[k].r ≤ 65535 := hr2
  have er : T.L[j].r = A[k].r := by rw [he]; rfl
  have hrel : T.rel A[k].id = if 1 < T.L[j].r then (⟨T.L.set j T.L[j].less, T.nx⟩, false, 0) else (⟨T.L.eraseIdx j, T.nx⟩, true, 0) := by
    unfold TbV.rel
    rw [hat]
    dsimp only
    rw [List.getElem?_eq_getElem hj]
  by_cases h1 : 1 < A[k].r
  · rw [hrel, if_pos (by rw [er]; exact h1), decide_eq_false (by omega)]
    obtain ⟨_, _, hI⟩ := h.refs hk hr hat (n := A[k].r - 1) (by omega) (by omega)
    have : T.L[j].less = { T.L[j] with r := A[k].r - 1 } := by unfold ChV.less; rw [er]
    exact ⟨_, rfl, by rw [this]; exact hI, rfl⟩
  · rw [hrel, if_neg (by rw [er]; exact h1), decide_eq_true (by omega)]
    have : A[k].r - 1 = 0 := by omega
    exact ⟨_, rfl, by rw [this]; exact h.gone hk hr hat, rfl⟩
theorem OnI.holds {T : TbV} {A : List HdV} (h : OnI T A) {k : Nat} (hk : k < A.length) (hr : 0 < A[k].r) (hr2 : A[k].r < 65535) : ∃ T', T.hold A[k].id = (T', 0) ∧ OnI T' (A.set k { A[k] with r := A[k].r + 1 }) ∧ T'.nx = T.nx := by
  obtain ⟨j, hat, hj, he⟩ := h.at_live hk hr
  have er : T.L[j].r = A[k].r := by rw [he]; rfl
  have hh : T.hold A[k].id = if 65535 ≤ T.L[j].r then (T, 12) else (⟨T.L.set j T.L[j].more, T.nx⟩, 0) := by
    unfold TbV.hold
    rw [hat]
    dsimp only
    rw [List.getElem?_eq_getElem hj]
  rw [hh, if_neg (by rw [er]; omega)]
  obtain ⟨_, _, hI⟩ := h.refs hk hr hat (n := A[k].r + 1) (by omega) (by omega)
  have : T.L[j].more = { T.L[j] with r := A[k].r + 1 } := by unfold ChV.more; rw [er]
  exact ⟨_, rfl, by rw [this]; exact hI, rfl⟩
theorem OnI.adds {T : TbV} {s : List UInt8} {b : Int} (hf : 1 ≤ s.length ∧ s.length ≤ 64) (hno : T.find s = none) (hn : T.nx < 4294967295) : T.add s b = (T.put ⟨T.nx, s, b, 1⟩, T.nx, 0) ∧ (T.put ⟨T.nx, s, b, 1⟩).nx = T.nx + 1 :=
  ⟨TbV.add_yes b ((fitS_iff s).2 hf) (by rw [hno]; rfl) (by omega), if_pos (Nat.le_refl _)⟩
set_option maxRecDepth 100000 in
set_option maxHeartbeats 32000000 in
theorem dedupOnce_any (v : Value) (l : List (List UInt8)) (w : World) (h : Strs w v l) (hls : ∀ s ∈ l, s.length ≤ 9223372036854775807) :
    Calls Try.prog 4 #[v] w fun e w' => e = .returned (.bool true) ∧ Frm (fun _ => False) w w' := by
  obtain ⟨a, cap, rfl, hc1, hc2⟩ := h.slice
  unfold maxLen at hc2
  have H := Lib.hid h
  have HLs := Lib.hid hls
  have HW := Lib.hid works16_any
  clear h hls
  by_cases h40 : l.length ≤ 40
  · have hl40 : ¬ (40 : Int) < (l.length : Int) := by omega
    go_enter Try.func4, Try.ntmps4
    go_wp2_with fail
    refine (tnew_any w).mono ?_
    rintro e w1 ⟨vt, rfl, b, fp1, rfl, t1, n1, g1⟩
    have HS1 := Lib.hid (show OnS w w1 b 0 0 TbV.new [] (.slice none 0 0) fp1 from ⟨⟨t1, OwnH.nil_ _, (fun g hg => by cases hg), n1, (fun g hg => by cases hg), g1⟩, OnI.new, Nat.le_refl _, Nat.le_refl _, by decide, (fun x hx => by cases hx)⟩)
    clear t1 n1 g1
    go_wp2_with fail
    go_loopw [4, 5, 6] (fun va ga i wr => ∃ k gr : Nat, k ≤ l.length ∧ i = .int .i64 (k : Nat) ∧ ga = .int .u32 (gr : Nat) ∧ ∃ T A fp, OnS w wr b k gr T A va fp) (fun _ _ i _ => l.length - (intOf i).toNat)
    case atStart => exact ⟨0, 0, Nat.zero_le _, rfl, rfl, _, _, _, HS1.out⟩
    case round =>
      obtain ⟨k, gr, hk, rfl, rfl, T, A, fp, hS⟩ := hrel
      have HS := Lib.hid hS
      clear HS1
      by_cases hlt : k < l.length
      · have hki : (k : Int) < (l.length : Int) := by omega
        have hk0 : (0 : Int) ≤ (k : Int) := by omega
        obtain ⟨g, off, rfl, _, c0⟩ := (H.out.keepF hS.m.f).at k hlt
        have hsl := HLs.out _ (List.getElem_mem hlt)
        obtain ⟨s, hs⟩ : ∃ s, l[k] = s := ⟨_, rfl⟩
        have HC := Lib.hid fun (W : World) (f : Frm (fun _ => False) w W) => (show W.cell? ⟨g, off + k, none⟩ = some (.string (bs s)) from by
          obtain ⟨g', off', e, _, c⟩ := (H.out.keepF f).at k hlt
          cases e
          rw [← hs]; exact c)
        rw [hs] at c0 hsl
        clear hs
        by_cases hb1 : s.length < 1
        · have q1 : ((bs s).size : Int) < 1 := by rw [bs_size]; omega
          have q2 : (bs s).size < 1 := by rw [bs_size]; exact hb1
          go_wp2_with fail
          refine (HW.out _).mono ?_
          rintro e w2 ⟨rfl, g2⟩
          go_wp2_with fail
          go_ret
          exact ⟨rfl, HS.out.m.f.trans g2⟩
        · by_cases hb2 : 64 < s.length
          · have q1 : ¬ ((bs s).size : Int) < 1 := by rw [bs_size]; omega
            have q2 : (64 : Int) < ((bs s).size : Int) := by rw [bs_size]; omega
            go_wp2_with fail
            refine (HW.out _).mono ?_
            rintro e w2 ⟨rfl, g2⟩
            go_wp2_with fail
            go_ret
            exact ⟨rfl, HS.out.m.f.trans g2⟩
          · have q1 : ¬ ((bs s).size : Int) < 1 := by rw [bs_size]; omega
            have q2 : ¬ (64 : Int) < ((bs s).size : Int) := by rw [bs_size]; omega
            have hs1 : 1 ≤ s.length := by omega
            have hs2 : s.length ≤ 64 := by omega
            obtain ⟨d, hd⟩ : ∃ d, s.drop 1 ++ [46] = d := ⟨_, rfl⟩
            have hdl : d.length = s.length := by rw [← hd, List.length_append, List.length_drop]; show s.length - 1 + 1 = _; omega
            have hdv : (bs s).extract 1 (bs s).size ++ (⟨#[46]⟩ : ByteArray) = bs d := by rw [bs_drop, ← hd, ← bs_append]; rfl
            have hdz : ((bs s).extract 1 (bs s).size).size = s.length - 1 := by rw [bs_drop, bs_size, List.length_drop]
            have hi0 : 0 < (bs s).size := by rw [bs_size]; omega
            have hx0 : ((bs s)[0]'hi0).toNat < 256 := ((bs s)[0]'hi0).toNat_lt
            have HD := Lib.hid (And.intro hdl (And.intro hs1 hs2))
            have hT40 : T.L.length ≤ 900000 := by have := TbV.len_lt hS.i.ok; have := hS.nx; omega
            have hnx1 := hS.nx
            have hgr1 := hS.gr
            have HFd := Lib.hid (hfind_any _ A d wr hS.m.o)
            have HTf := Lib.hid (tfind_any b d T fp (by omega) hT40 wr hS.m.t)
            obtain ⟨aa, ca, hva, hca1, hca2⟩ := hS.m.o.slice
            unfold maxLen at hca2
            subst hva
            have hAn := hS.n
            clear hb1 hb2 hd hdl hs1 hs2

            cases hfx : hix A d with
            | none =>
              have hfn : ∀ y ∈ A, y.s = d → y.r = 0 := fun y hy e => absurd e (hix_none hfx y hy)
              have HNF := Lib.hid (hS.i.find_none hfn)
              have hfid := hS.i.fid_none hfn
              have HXN := Lib.hid (hix_none hfx)
              rw [hfid] at HTf
              rw [hfx] at HFd
              rw [show ixZ none = -1 from rfl] at HFd
              rw [show fidT none = .tuple #[.int .u32 0, .bool false] from rfl] at HTf
              clear hfn hfid hfx
              by_cases hpar : ((bs s)[0]'hi0).toNat % 2 = 0
              · skip
                have t1 : (((bs s)[0]'hi0).toNat : Int).tmod 2 = 0 := by rw [Int.tmod_eq_emod_of_nonneg (by omega)]; omega
                clear hpar
                clear hS hx0
                go_wp2_with fail
                refine HFd.out.mono ?_
                rintro e w2 ⟨rfl, rfl⟩
                go_wp2_with fail
                refine HTf.out.mono ?_
                rintro e w3 ⟨rfl, g3⟩
                have hS3 : OnS w w3 b k gr T A _ fp := ⟨HS.out.m.keepF g3, HS.out.i, HS.out.n, HS.out.nx, HS.out.gr, HS.out.s⟩
                have HS3 := Lib.hid hS3
                have c3 := HC.out w3 hS3.m.f
                clear HFd HTf c0 g3
                clear hS3
                have HK := Lib.hid (show OnS w w3 b (k + 1) gr T A _ fp from ⟨HS3.out.m, HS3.out.i, by have := HS3.out.n; omega, by have := HS3.out.nx; omega, HS3.out.gr, fun y hy => by have := HS3.out.s y hy; omega⟩)
                go_wp2_with fail
                refine (OnS.kept HK.out (by omega)).mono ?_
                rintro e wk ⟨rfl, hk9⟩
                have HK9 := Lib.hid hk9
                clear hk9 HK
                go_wp2_with fail
                go_roundw
                case rel => exact ⟨k + 1, gr, by omega, by go_num, rfl, _, _, _, HK9.out⟩
                case measure => simp [intOf]; omega
              · skip
                have t1 : (((bs s)[0]'hi0).toNat : Int).tmod 2 = 1 := by rw [Int.tmod_eq_emod_of_nonneg (by omega)]; omega
                clear hpar
                clear hS hx0
                go_wp2_with fail
                refine HFd.out.mono ?_
                rintro e w2 ⟨rfl, rfl⟩
                go_wp2_with fail
                refine HTf.out.mono ?_
                rintro e w3 ⟨rfl, g3⟩
                have hS3 : OnS w w3 b k gr T A _ fp := ⟨HS.out.m.keepF g3, HS.out.i, HS.out.n, HS.out.nx, HS.out.gr, HS.out.s⟩
                have HS3 := Lib.hid hS3
                have c3 := HC.out w3 hS3.m.f
                clear HFd HTf c0 g3
                clear hS3
                obtain ⟨hadd, hpn⟩ := OnI.adds (T := T) (s := d) (b := (k : Int)) (by obtain ⟨h1, h2, h3⟩ := HD.out; omega) (HNF.out) (by omega)
                have hRl := tadd_any b d (k : Int) T fp (by obtain ⟨h1, h2, h3⟩ := HD.out; omega) (by omega) hT40 w3 HS3.out.m.t
                rw [hadd] at hRl
                have HR := Lib.hid hRl
                have HPN := Lib.hid hpn
                clear hadd hRl hpn
                have hgi : ¬ ((T.nx : Nat) : Int) ≤ (gr : Int) := by omega
                go_wp2_with fail
                refine HR.out.mono ?_
                rintro e w4 ⟨rfl, h4⟩
                obtain ⟨fp4, m4⟩ := HS3.out.m.tab h4
                have M4 := Lib.hid m4
                clear h4 HR
                have mA := m4.keepF ((Frm.refl (fun _ => False) w4).alloc (.cells #[.string (bs d), .int .u32 0, .int .i64 0, .int .i64 0] 47))
                obtain ⟨v5, w5, hrun, ho5, hg5, hn5⟩ := append_hs _ _ _ A [⟨d, 0, 0, 0⟩] mA.o (Sl.held w4 47 ⟨d, 0, 0, 0⟩) (by simp; omega)
                have m5 := mA.own ho5 ((Frm.refl _ _).grown hg5 (fun j _ e => e)) hn5
                obtain ⟨a5, c5, rfl, hc51, hc52⟩ := ho5.slice
                have el : (A ++ [(⟨d, 0, 0, 0⟩ : HdV)]).length = A.length + 1 := by simp
                obtain ⟨ga, hga, hrest⟩ := ho5.at_ A.length (by rw [el]; omega)
                clear hrest
                cases hga
                have HRun := Lib.hid hrun
                have M5 := Lib.hid m5
                have hnk : ¬ (0 : Int) ≤ -1 := by decide
                rw [el] at HRun hc51
                unfold maxLen at hc52
                clear hrun m5 ho5 hg5 hn5 mA m4 c3
                go_wp2_with (first
                  | (at_builtin; refine Lib.wpList_append_run _ rfl _ _ _ _ rfl _ _ rfl rfl _ _ HRun.out ?_)
                  | (refine wpl_store_held rfl (.tmp 146) (.tmp 145) rfl ga c5 A.length (A ++ [⟨d, 0, 0, 0⟩]) ⟨d, T.nx, (k : Int), 1⟩ rfl rfl M5.out.o (by rw [el]; omega) ?_; intro w6 ho6 hg6 hs6; rw [el, set_snoc] at ho6; have HO6 := Lib.hid ho6; have HG6 := Lib.hid hg6; clear ho6 hg6 hs6)
                  | fail)
                have m6 := M5.out.own HO6.out (HG6.out.mono fun _ _ e => by rw [e]; rfl) (fun g' hg' => .inl hg')
                have HK := Lib.hid (show OnS w w6 b (k + 1) T.nx (T.put ⟨T.nx, d, (k : Int), 1⟩) (A ++ [⟨d, T.nx, (k : Int), 1⟩]) _ fp4 from ⟨m6, HS3.out.i.add ⟨HS3.out.i.ok.n1, by show T.nx < _; omega, by obtain ⟨h1, h2, h3⟩ := HD.out; show 1 ≤ d.length; omega, by obtain ⟨h1, h2, h3⟩ := HD.out; show d.length ≤ 64; omega, by show -9223372036854775808 ≤ (k : Int) ∧ (k : Int) ≤ 9223372036854775807; omega, Nat.le_refl _, by show 1 ≤ 65535; decide⟩ HXN.out, by rw [List.length_append]; have := HS3.out.n; show A.length + 1 ≤ _; omega, by have := HS3.out.nx; rw [HPN.out]; omega, by rw [HPN.out]; omega, fun y hy => by
                  rcases List.mem_append.1 hy with hy | hy
                  · have := HS3.out.s y hy; omega
                  · rw [List.mem_singleton] at hy
                    subst hy
                    obtain ⟨h1, h2, h3⟩ := HD.out
                    show 1 ≤ d.length ∧ d.length ≤ 64 ∧ 1 ≤ k + 1
                    omega⟩)
                clear m6 HO6 HG6 HRun M5 M4
                go_wp2_with fail
                refine (OnS.kept HK.out (by omega)).mono ?_
                rintro e wk ⟨rfl, hk9⟩
                have HK9 := Lib.hid hk9
                clear hk9 HK
                go_wp2_with fail
                go_roundw
                case rel => exact ⟨k + 1, T.nx, by omega, by go_num, rfl, _, _, _, HK9.out⟩
                case measure => simp [intOf]; omega
            | some j =>
              obtain ⟨hj, hjs⟩ := hix_some hfx
              have hji : (j : Int) < (A.length : Int) := by omega
              have hj0 : (0 : Int) ≤ (j : Int) := by omega
              have hjn : ¬ (j : Int) < 0 := by omega
              obtain ⟨x, hAj⟩ : ∃ x, A[j] = x := ⟨_, rfl⟩
              have hxs := hS.s _ (List.getElem_mem hj)
              rw [hAj] at hjs hxs
              rw [hfx] at HFd
              rw [show ixZ (some j) = (j : Int) from rfl] at HFd
              obtain ⟨z, hz⟩ : ∃ z : Int, (x.r : Int) = z := ⟨_, rfl⟩
              by_cases hr : 0 < x.r
              · have hzp : (0 : Int) < z := by omega
                have hz40 : z ≤ 41 := by omega
                have hfid := hS.i.fid_live (List.getElem_mem hj) (by rw [hAj]; exact hr)
                rw [hAj, hjs] at hfid
                rw [hfid] at HTf
                rw [show fidT (some x.id) = .tuple #[.int .u32 (x.id : Nat), .bool true] from rfl] at HTf
                clear hfid hfx
                by_cases hpar : ((bs s)[0]'hi0).toNat % 2 = 0
                · skip
                  have t1 : (((bs s)[0]'hi0).toNat : Int).tmod 2 = 0 := by rw [Int.tmod_eq_emod_of_nonneg (by omega)]; omega
                  clear hpar
                  clear hS hx0
                  go_wp2_with fail
                  refine HFd.out.mono ?_
                  rintro e w2 ⟨rfl, rfl⟩
                  go_wp2_with fail
                  refine HTf.out.mono ?_
                  rintro e w3 ⟨rfl, g3⟩
                  have hS3 : OnS w w3 b k gr T A _ fp := ⟨HS.out.m.keepF g3, HS.out.i, HS.out.n, HS.out.nx, HS.out.gr, HS.out.s⟩
                  have HS3 := Lib.hid hS3
                  have c3 := HC.out w3 hS3.m.f
                  clear HFd HTf c0 g3
                  obtain ⟨ga, hga, _, e0, e1, e2, e3, hfz⟩ := hS3.m.o.at_ j hj
                  cases hga
                  rw [hAj] at e0 e1 e2 e3
                  rw [hz] at e3
                  have fz3 := hfz 3 (by decide)
                  clear hS3
                  obtain ⟨T1, hrel1, hI1, hn1⟩ := HS3.out.i.release hj (by rw [hAj]; exact hr)
                  rw [hAj] at hrel1 hI1
                  have hidm := HS3.out.i.lt _ (List.getElem_mem hj)
                  rw [hAj] at hidm
                  have hRl := trel_any b x.id T fp (by omega) hT40 w3 HS3.out.m.t
                  rw [hrel1] at hRl
                  have HR := Lib.hid hRl
                  have HI1 := Lib.hid (And.intro hI1 hn1)
                  clear hrel1 hI1 hn1 hRl hidm
                  go_wp2_with fail
                  refine HR.out.mono ?_
                  rintro e w4 ⟨rfl, h4⟩
                  obtain ⟨fp4, m4⟩ := HS3.out.m.tab h4
                  obtain ⟨ga', hga, _, _, _, _, d3, hfz4⟩ := m4.o.at_ j hj
                  cases hga
                  rw [hAj, hz] at d3
                  have fz4 := hfz4 3 (by decide)
                  have M4 := Lib.hid m4
                  have m5 := m4.refs hj (x.r - 1)
                  rw [show ((x.r - 1 : Nat) : Int) = z - 1 by omega, hAj] at m5
                  have d5 : (w4.setCell ⟨ga, j * 4 + 3, none⟩ (.int .i64 (z - 1))).cell? ⟨ga, j * 4 + 3, none⟩ = some (.int .i64 (z - 1)) := World.cell?_setCell_same _ _ _ d3
                  have HK := Lib.hid (show OnS w _ b (k + 1) gr T1 (A.set j { x with r := x.r - 1 }) _ fp4 from ⟨m5, HI1.out.1, by rw [List.length_set]; have := HS3.out.n; omega, by have := HS3.out.nx; rw [HI1.out.2]; omega, by rw [HI1.out.2]; exact HS3.out.gr, set_all (fun y hy => by have := HS3.out.s y hy; omega) (by have := HS3.out.s _ (List.getElem_mem hj); rw [hAj] at this; exact ⟨this.1, this.2.1, by show x.r - 1 ≤ _; omega⟩)⟩)
                  obtain ⟨lst, hlst⟩ : ∃ q, decide (x.r - 1 = 0) = q := ⟨_, rfl⟩
                  have hlq : ((z - 1) == 0) = lst := by rw [← hlst, Bool.eq_iff_iff]; simp; omega
                  have hlq2 : (lst != lst) = false := bne_self_eq_false _
                  have hzz2 : -9223372036854775807 ≤ z - 1 ∧ z - 1 ≤ 9223372036854775806 := by omega
                  rw [hlst]
                  obtain ⟨W5, hW5⟩ : ∃ W5, w4.setCell ⟨ga, j * 4 + 3, none⟩ (.int .i64 (z - 1)) = W5 := ⟨_, rfl⟩
                  rw [hW5] at HK d5
                  clear m4 m5 HR h4 hlst e0 e1 e2 e3 fz3 hfz4 hfz c3
                  go_wp2_with fail
                  refine (OnS.kept HK.out (by omega)).mono ?_
                  rintro e wk ⟨rfl, hk9⟩
                  have HK9 := Lib.hid hk9
                  clear hk9 HK
                  go_wp2_with fail
                  go_roundw
                  case rel => exact ⟨k + 1, gr, by omega, by go_num, rfl, _, _, _, HK9.out⟩
                  case measure => simp [intOf]; omega
                · skip
                  have t1 : (((bs s)[0]'hi0).toNat : Int).tmod 2 = 1 := by rw [Int.tmod_eq_emod_of_nonneg (by omega)]; omega
                  clear hpar
                  clear hS hx0
                  go_wp2_with fail
                  refine HFd.out.mono ?_
                  rintro e w2 ⟨rfl, rfl⟩
                  go_wp2_with fail
                  refine HTf.out.mono ?_
                  rintro e w3 ⟨rfl, g3⟩
                  have hS3 : OnS w w3 b k gr T A _ fp := ⟨HS.out.m.keepF g3, HS.out.i, HS.out.n, HS.out.nx, HS.out.gr, HS.out.s⟩
                  have HS3 := Lib.hid hS3
                  have c3 := HC.out w3 hS3.m.f
                  clear HFd HTf c0 g3
                  obtain ⟨ga, hga, _, e0, e1, e2, e3, hfz⟩ := hS3.m.o.at_ j hj
                  cases hga
                  rw [hAj] at e0 e1 e2 e3
                  rw [hz] at e3
                  have fz3 := hfz 3 (by decide)
                  clear hS3
                  obtain ⟨T1, hrel1, hI1, hn1⟩ := HS3.out.i.holds hj (by rw [hAj]; exact hr) (by rw [hAj]; omega)
                  rw [hAj] at hrel1 hI1
                  have hidm := HS3.out.i.lt _ (List.getElem_mem hj)
                  rw [hAj] at hidm
                  have hRl := thold_any b x.id T fp (by omega) hT40 w3 HS3.out.m.t
                  rw [hrel1] at hRl
                  have HR := Lib.hid hRl
                  have HI1 := Lib.hid (And.intro hI1 hn1)
                  clear hrel1 hI1 hn1 hRl hidm
                  go_wp2_with fail
                  refine HR.out.mono ?_
                  rintro e w4 ⟨rfl, h4⟩
                  obtain ⟨fp4, m4⟩ := HS3.out.m.tab h4
                  obtain ⟨ga', hga, _, _, _, _, d3, hfz4⟩ := m4.o.at_ j hj
                  cases hga
                  rw [hAj, hz] at d3
                  have fz4 := hfz4 3 (by decide)
                  have m5 := m4.refs hj (x.r + 1)
                  rw [show ((x.r + 1 : Nat) : Int) = z + 1 by omega, hAj] at m5
                  have HK := Lib.hid (show OnS w _ b (k + 1) gr T1 (A.set j { x with r := x.r + 1 }) _ fp4 from ⟨m5, HI1.out.1, by rw [List.length_set]; have := HS3.out.n; omega, by have := HS3.out.nx; rw [HI1.out.2]; omega, by rw [HI1.out.2]; exact HS3.out.gr, set_all (fun y hy => by have := HS3.out.s y hy; omega) (by have := HS3.out.s _ (List.getElem_mem hj); rw [hAj] at this; exact ⟨this.1, this.2.1, by show x.r + 1 ≤ _; omega⟩)⟩)
                  obtain ⟨W5, hW5⟩ : ∃ W5, w4.setCell ⟨ga, j * 4 + 3, none⟩ (.int .i64 (z + 1)) = W5 := ⟨_, rfl⟩
                  rw [hW5] at HK
                  clear m4 m5 HR h4 e0 e1 e2 e3 fz3 hfz4 hfz c3
                  go_wp2_with fail
                  refine (OnS.kept HK.out (by omega)).mono ?_
                  rintro e wk ⟨rfl, hk9⟩
                  have HK9 := Lib.hid hk9
                  clear hk9 HK
                  go_wp2_with fail
                  go_roundw
                  case rel => exact ⟨k + 1, gr, by omega, by go_num, rfl, _, _, _, HK9.out⟩
                  case measure => simp [intOf]; omega
              · have hzp : ¬ (0 : Int) < z := by omega
                have hfn : ∀ y ∈ A, y.s = d → y.r = 0 := by
                  have := hS.i.dead_only (List.getElem_mem hj) (by rw [hAj]; omega)
                  rw [hAj, hjs] at this
                  exact this
                have HNF := Lib.hid (hS.i.find_none hfn)
                have hfid := hS.i.fid_none hfn
                rw [hfid] at HTf
                rw [show fidT none = .tuple #[.int .u32 0, .bool false] from rfl] at HTf
                clear hfid hfx hfn
                by_cases hpar : ((bs s)[0]'hi0).toNat % 2 = 0
                · skip
                  have t1 : (((bs s)[0]'hi0).toNat : Int).tmod 2 = 0 := by rw [Int.tmod_eq_emod_of_nonneg (by omega)]; omega
                  clear hpar
                  clear hS hx0
                  go_wp2_with fail
                  refine HFd.out.mono ?_
                  rintro e w2 ⟨rfl, rfl⟩
                  go_wp2_with fail
                  refine HTf.out.mono ?_
                  rintro e w3 ⟨rfl, g3⟩
                  have hS3 : OnS w w3 b k gr T A _ fp := ⟨HS.out.m.keepF g3, HS.out.i, HS.out.n, HS.out.nx, HS.out.gr, HS.out.s⟩
                  have HS3 := Lib.hid hS3
                  have c3 := HC.out w3 hS3.m.f
                  clear HFd HTf c0 g3
                  obtain ⟨ga, hga, _, e0, e1, e2, e3, hfz⟩ := hS3.m.o.at_ j hj
                  cases hga
                  rw [hAj] at e0 e1 e2 e3
                  rw [hz] at e3
                  have fz3 := hfz 3 (by decide)
                  clear hS3
                  have HK := Lib.hid (show OnS w w3 b (k + 1) gr T A _ fp from ⟨HS3.out.m, HS3.out.i, by have := HS3.out.n; omega, by have := HS3.out.nx; omega, HS3.out.gr, fun y hy => by have := HS3.out.s y hy; omega⟩)
                  go_wp2_with fail
                  refine (OnS.kept HK.out (by omega)).mono ?_
                  rintro e wk ⟨rfl, hk9⟩
                  have HK9 := Lib.hid hk9
                  clear hk9 HK
                  go_wp2_with fail
                  go_roundw
                  case rel => exact ⟨k + 1, gr, by omega, by go_num, rfl, _, _, _, HK9.out⟩
                  case measure => simp [intOf]; omega
                · skip
                  have t1 : (((bs s)[0]'hi0).toNat : Int).tmod 2 = 1 := by rw [Int.tmod_eq_emod_of_nonneg (by omega)]; omega
                  clear hpar
                  clear hS hx0
                  go_wp2_with fail
                  refine HFd.out.mono ?_
                  rintro e w2 ⟨rfl, rfl⟩
                  go_wp2_with fail
                  refine HTf.out.mono ?_
                  rintro e w3 ⟨rfl, g3⟩
                  have hS3 : OnS w w3 b k gr T A _ fp := ⟨HS.out.m.keepF g3, HS.out.i, HS.out.n, HS.out.nx, HS.out.gr, HS.out.s⟩
                  have HS3 := Lib.hid hS3
                  have c3 := HC.out w3 hS3.m.f
                  clear HFd HTf c0 g3
                  obtain ⟨ga, hga, _, e0, e1, e2, e3, hfz⟩ := hS3.m.o.at_ j hj
                  cases hga
                  rw [hAj] at e0 e1 e2 e3
                  rw [hz] at e3
                  have fz3 := hfz 3 (by decide)
                  clear hS3
                  obtain ⟨hadd, hpn⟩ := OnI.adds (T := T) (s := d) (b := (k : Int)) (by obtain ⟨h1, h2, h3⟩ := HD.out; omega) (HNF.out) (by omega)
                  have hRl := tadd_any b d (k : Int) T fp (by obtain ⟨h1, h2, h3⟩ := HD.out; omega) (by omega) hT40 w3 HS3.out.m.t
                  rw [hadd] at hRl
                  have HR := Lib.hid hRl
                  have HPN := Lib.hid hpn
                  clear hadd hRl hpn
                  have hgi : ¬ ((T.nx : Nat) : Int) ≤ (gr : Int) := by omega
                  go_wp2_with fail
                  refine HR.out.mono ?_
                  rintro e w4 ⟨rfl, h4⟩
                  obtain ⟨fp4, m4⟩ := HS3.out.m.tab h4
                  have M4 := Lib.hid m4
                  clear h4 HR
                  obtain ⟨ga', hga, hrest⟩ := m4.o.at_ j hj
                  clear hrest
                  cases hga
                  clear m4 e0 e1 e2 e3 fz3 hfz c3
                  go_wp2_with (first
                    | (refine wpl_store_held rfl (.tmp 146) (.tmp 145) rfl ga ca j A ⟨d, T.nx, (k : Int), 1⟩ rfl rfl M4.out.o hj ?_; intro w6 ho6 hg6 hs6; have HO6 := Lib.hid ho6; have HG6 := Lib.hid hg6; clear ho6 hg6 hs6)
                    | fail)
                  have m6 := M4.out.own (A' := A.set j ⟨d, T.nx, (k : Int), 1⟩) (v' := .slice (some ⟨ga, 0, none⟩) A.length ca) (by have := HO6.out; unfold OwnH at this ⊢; rw [List.length_set] at this ⊢; exact this) (HG6.out.mono fun _ _ e => by rw [e]; rfl) (fun g' hg' => .inl hg')
                  have hagain := HS3.out.i.again hj (by rw [hAj]; omega) (b := (k : Int)) ⟨HS3.out.i.ok.n1, by show T.nx < _; omega, by obtain ⟨h1, h2, h3⟩ := HD.out; rw [hAj]; show 1 ≤ x.s.length; rw [hjs]; omega, by obtain ⟨h1, h2, h3⟩ := HD.out; rw [hAj]; show x.s.length ≤ 64; rw [hjs]; omega, by show -9223372036854775808 ≤ (k : Int) ∧ (k : Int) ≤ 9223372036854775807; omega, Nat.le_refl _, by show 1 ≤ 65535; decide⟩
                  rw [hAj, hjs] at hagain
                  have HK := Lib.hid (show OnS w w6 b (k + 1) T.nx (T.put ⟨T.nx, d, (k : Int), 1⟩) (A.set j ⟨d, T.nx, (k : Int), 1⟩) _ fp4 from ⟨m6, hagain, by rw [List.length_set]; have := HS3.out.n; omega, by have := HS3.out.nx; rw [HPN.out]; omega, by rw [HPN.out]; omega, set_all (fun y hy => by have := HS3.out.s y hy; omega) (by obtain ⟨h1, h2, h3⟩ := HD.out; show 1 ≤ d.length ∧ d.length ≤ 64 ∧ 1 ≤ k + 1; omega)⟩)
                  clear m6 HO6 HG6 M4 hagain
                  go_wp2_with fail
                  refine (OnS.kept HK.out (by omega)).mono ?_
                  rintro e wk ⟨rfl, hk9⟩
                  have HK9 := Lib.hid hk9
                  clear hk9 HK
                  go_wp2_with fail
                  go_roundw
                  case rel => exact ⟨k + 1, T.nx, by omega, by go_num, rfl, _, _, _, HK9.out⟩
                  case measure => simp [intOf]; omega
      · obtain rfl : k = l.length := by omega
        have hki : ¬ ((l.length : Nat) : Int) < (l.length : Int) := by omega
        clear hS
        go_wp2_with fail
        refine (HW.out _).mono ?_
        rintro e w2 ⟨rfl, g2⟩
        go_wp2_with fail
        go_ret
        exact ⟨rfl, HS.out.m.f.trans g2⟩
  · have hl40 : (40 : Int) < (l.length : Int) := by omega
    go_enter Try.func4, Try.ntmps4
    go_wp2_with fail
    refine (HW.out _).mono ?_
    rintro e w2 ⟨rfl, g2⟩
    go_wp2_with fail
    go_ret
    exact ⟨rfl, g2⟩
end Go.Proofs.Ytjodkgbpbibfbaa
