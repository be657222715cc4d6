/- What the program's readDecl answers. -/
import Derived.Test.YtpmpooekpeocdaaGreatDcM
namespace Go.Proofs.YtpmpooekpeocdaaGreat
open Go.ChangeShapes Go.WideShapes Go.ChangeAt Go.RowKit

theorem decl_fields {d : Dc} (h : fieldsD d = false) : declB d = false := by unfold declB; rw [h]; rfl
theorem decl_quot {d : Dc} (h : fieldsD d = true) (h5 : d.k = 5) : declB d = true := by unfold declB; rw [h, h5]; rfl
theorem decl_type {d : Dc} (h5 : d.k ≠ 5) (h : plainB d.t d.ps = false) : declB d = false := by unfold declB; rw [h, show decide (d.k = 5) = false by simp [h5]]; simp
theorem decl_rest {d : Dc} (h : fieldsD d = true) (h5 : d.k ≠ 5) (ht : plainB d.t d.ps = true) : declB d = ((!hasVal d.k || plainB d.v d.ps) && d.cs.all (fun c => plainB c.t d.ps)) := by unfold declB; rw [h, ht, show decide (d.k = 5) = false by simp [h5]]; simp
theorem fields_cs {d : Dc} (h : fieldsD d = true) : d.cs.length ≤ 20 := by
  unfold fieldsD at h
  rw [Bool.and_eq_true] at h
  have h := h.2
  split at h
  · simp only [Bool.and_eq_true, decide_eq_true_eq] at h; exact h.1.2
  · split at h
    · simp only [Bool.and_eq_true, decide_eq_true_eq] at h; omega
    · split at h
      · simp only [Bool.and_eq_true, decide_eq_true_eq] at h; omega
      · cases h
theorem all_take {α : Type} (f : α → Bool) (l : List α) (j : Nat) (h : j < l.length) : (l.take (j + 1)).all f = ((l.take j).all f && f l[j]) := by rw [List.take_succ_eq_append_getElem h, List.all_append]; simp
set_option maxRecDepth 20000 in
set_option maxHeartbeats 4000000 in
theorem readDecl_any (S : SortS) (d : Dc) (pv tv vv cv : Value) (w0 w : World) (Sb mb gb clock0 : Nat) (L0 : List (Nk × Nat × Nat)) (Z0 : Nat → Zs) (H0 : Nat → Bool) (hz : DcLens d) (hm : DcS d) (hd : DeclAt w0 pv tv vv cv d) (hb : Below w0.heap.size w0 w) (hs : St w0.heap.size w Sb mb gb clock0 L0 Z0 H0) :
    Calls Tryz.prog 43 #[.pointer (some ⟨Sb, 0, none⟩), declV d pv tv vv cv] w fun e w' => RdE w0.heap.size Sb mb gb L0 Z0 d e w' ∧ Below w0.heap.size w0 w' ∧ KeptX (fun k => k = mb) w w' := by
  obtain ⟨ip, hip, hzp, hsp1, hbp⟩ := info_parts Tryz.info61
  obtain ⟨pa, pc, hpv⟩ : ∃ a c, pv = .slice a d.ps.length c := by obtain ⟨a, c, h, _⟩ := hd.ps; exact ⟨a, c, h⟩
  obtain ⟨ta, tc, htv⟩ := hd.t.form
  obtain ⟨va, vc, hvv⟩ := hd.v.form
  obtain ⟨ca, cc, hcv⟩ := hd.cs.form
  subst hpv htv hvv hcv
  have HD := hide hd
  have HZ := hide hz
  have HM := hide hm
  have HRT : Hid (∀ (u : Value) (ts : List Td), (∀ td ∈ ts, TLens td) → TmS ts → TNodesAt w0 u ts → ∀ (W : World) (clock : Nat) (L : List (Nk × Nat × Nat)) (Z : Nat → Zs) (H : Nat → Bool), Below w0.heap.size w0 W → St w0.heap.size W Sb mb gb clock L Z H → Calls Tryz.prog 80 #[.pointer (some ⟨Sb, 0, none⟩), .agg #[u], .slice pa d.ps.length pc] W fun e w' => RdD w0.heap.size Sb mb gb L Z ts d.ps e w' ∧ Below w0.heap.size w0 w' ∧ KeptX (fun k => k = mb) W w') := fun u ts h1 h2 h3 W clock L Z H h4 h5 => readDeclTerm_any S u _ ts d.ps w0 W Sb mb gb clock L Z H h3 h1 h2.sm h2.sp hd.ps h4 h5
  obtain ⟨A, hA⟩ : ∃ A, A = declB d := ⟨_, rfl⟩
  have HA := hide hA
  obtain ⟨W, hW⟩ : ∃ W, W = ((w.alloc (.cells #[.int .i64 d.k, .string d.s, .slice pa d.ps.length pc, .slice ta d.t.length tc, .slice va d.v.length vc, .int .i64 d.f, .slice ca d.cs.length cc] 36)).alloc (.cells noTerms 64)).alloc (.cells noTerms 64) := ⟨_, rfl⟩
  have HS : Hid (DSt w0 w #[.int .i64 d.k, .string d.s, .slice pa d.ps.length pc, .slice ta d.t.length tc, .slice va d.v.length vc, .int .i64 d.f, .slice ca d.cs.length cc] Sb mb gb [.pointer none, .pointer none, .slice none 0 0] W clock0 L0 Z0 H0) := by show DSt _ _ _ _ _ _ _ _ _ _ _ _; rw [hW]; exact DSt.start hs hb
  have HF := hide (declFieldsOk_any d _ _ _ _ W hz (hd.keep HS.out.bel))
  clear hd hz hm hb hs hA
  unfold noTerms at hW
  unfold declV at HF
  unfold declV
  have c0 : W.cell? ⟨w.heap.size, 0, none⟩ = some (.int .i64 d.k) := by rw [Lib.cell_of_heap HS.out.n0]; rfl
  have c1 : W.cell? ⟨w.heap.size, 1, none⟩ = some (.string d.s) := by rw [Lib.cell_of_heap HS.out.n0]; rfl
  have c2 : W.cell? ⟨w.heap.size, 2, none⟩ = some (.slice pa d.ps.length pc) := by rw [Lib.cell_of_heap HS.out.n0]; rfl
  have c3 : W.cell? ⟨w.heap.size, 3, none⟩ = some (.slice ta d.t.length tc) := by rw [Lib.cell_of_heap HS.out.n0]; rfl
  have c4 : W.cell? ⟨w.heap.size, 4, none⟩ = some (.slice va d.v.length vc) := by rw [Lib.cell_of_heap HS.out.n0]; rfl
  have c5 : W.cell? ⟨w.heap.size, 5, none⟩ = some (.int .i64 d.f) := by rw [Lib.cell_of_heap HS.out.n0]; rfl
  have c6 : W.cell? ⟨w.heap.size, 6, none⟩ = some (.slice ca d.cs.length cc) := by rw [Lib.cell_of_heap HS.out.n0]; rfl
  have l0 := lt_cell c0
  go_enter Tryz.func43, Tryz.ntmps43
  go_upto_region 2 with fail
  rw [← hW]
  clear hW
  cases hf : fieldsD d with
  | false =>
    rw [hf] at HF
    have HE : Hid (declB d = false) := decl_fields hf
    go_wp2_with fail
    refine HF.out.mono ?_
    rintro e w1 ⟨rfl, hb1⟩
    have HS1 := hide (HS.out.keep hb1)
    clear hb1
    have t0 : w1.cell? ⟨w.heap.size + 2, 0, none⟩ = some (.pointer none) := by rw [HS1.out.n2.cell 0 (by omega)]; rfl
    have tf0 : w1.frozen? ⟨w.heap.size + 2, 0, none⟩ = false := HS1.out.n2.frozen 0
    have t1 : w1.cell? ⟨w.heap.size + 2, 1, none⟩ = some (.pointer none) := by rw [HS1.out.n2.cell 1 (by omega)]; rfl
    have tf1 : w1.frozen? ⟨w.heap.size + 2, 1, none⟩ = false := HS1.out.n2.frozen 1
    have t2 : w1.cell? ⟨w.heap.size + 2, 2, none⟩ = some (.slice none 0 0) := by rw [HS1.out.n2.cell 2 (by omega)]; rfl
    have tf2 : w1.frozen? ⟨w.heap.size + 2, 2, none⟩ = false := HS1.out.n2.frozen 2
    have r0 : w1.cell? ⟨w.heap.size + 1, 0, none⟩ = some (.pointer none) := by rw [Lib.cell_of_heap HS1.out.n1]; rfl
    have rf0 : w1.frozen? ⟨w.heap.size + 1, 0, none⟩ = false := Lib.frozen_of_heap HS1.out.n1 0
    have r1 : w1.cell? ⟨w.heap.size + 1, 1, none⟩ = some (.pointer none) := by rw [Lib.cell_of_heap HS1.out.n1]; rfl
    have rf1 : w1.frozen? ⟨w.heap.size + 1, 1, none⟩ = false := Lib.frozen_of_heap HS1.out.n1 1
    have r2 : w1.cell? ⟨w.heap.size + 1, 2, none⟩ = some (.slice none 0 0) := by rw [Lib.cell_of_heap HS1.out.n1]; rfl
    have rf2 : w1.frozen? ⟨w.heap.size + 1, 2, none⟩ = false := Lib.frozen_of_heap HS1.out.n1 2
    have ls := HS1.out.sz
    go_wp2_with fail
    refine bodyPost_ret (v := .tuple #[.agg #[.pointer none, .pointer none, .slice none 0 0], .bool false]) (by simp [results, Tryz.results43, go_sem, r0, r1, r2]) rfl ?_
    have hl := HS1.out.last (((grown_set _ ⟨w.heap.size + 1, 0, none⟩ (.pointer none)).trans (grown_set _ ⟨w.heap.size + 1, 1, none⟩ (.pointer none))).trans (grown_set _ ⟨w.heap.size + 1, 2, none⟩ (.slice none 0 0)))
    exact ⟨⟨none, none, none, 0, 0, _, _, _, _, by rw [HE.out] <;> rfl, hl.1, fun x hx => ⟨hx, rfl⟩, fun q => absurd q (by rw [HE.out]; simp)⟩, hl.2.1, hl.2.2⟩
  | true =>
    rw [hf] at HF
    go_wp2_with fail
    refine HF.out.mono ?_
    rintro e w1 ⟨rfl, hb1⟩
    have HS1 := hide (HS.out.keep hb1)
    clear hb1 HF HS c0 c1 c2 c3 c4 c5 c6 l0
    have t0 : w1.cell? ⟨w.heap.size + 2, 0, none⟩ = some (.pointer none) := by rw [HS1.out.n2.cell 0 (by omega)]; rfl
    have tf0 : w1.frozen? ⟨w.heap.size + 2, 0, none⟩ = false := HS1.out.n2.frozen 0
    have t1 : w1.cell? ⟨w.heap.size + 2, 1, none⟩ = some (.pointer none) := by rw [HS1.out.n2.cell 1 (by omega)]; rfl
    have tf1 : w1.frozen? ⟨w.heap.size + 2, 1, none⟩ = false := HS1.out.n2.frozen 1
    have t2 : w1.cell? ⟨w.heap.size + 2, 2, none⟩ = some (.slice none 0 0) := by rw [HS1.out.n2.cell 2 (by omega)]; rfl
    have tf2 : w1.frozen? ⟨w.heap.size + 2, 2, none⟩ = false := HS1.out.n2.frozen 2
    have r0 : w1.cell? ⟨w.heap.size + 1, 0, none⟩ = some (.pointer none) := by rw [Lib.cell_of_heap HS1.out.n1]; rfl
    have rf0 : w1.frozen? ⟨w.heap.size + 1, 0, none⟩ = false := Lib.frozen_of_heap HS1.out.n1 0
    have r1 : w1.cell? ⟨w.heap.size + 1, 1, none⟩ = some (.pointer none) := by rw [Lib.cell_of_heap HS1.out.n1]; rfl
    have rf1 : w1.frozen? ⟨w.heap.size + 1, 1, none⟩ = false := Lib.frozen_of_heap HS1.out.n1 1
    have r2 : w1.cell? ⟨w.heap.size + 1, 2, none⟩ = some (.slice none 0 0) := by rw [Lib.cell_of_heap HS1.out.n1]; rfl
    have rf2 : w1.frozen? ⟨w.heap.size + 1, 2, none⟩ = false := Lib.frozen_of_heap HS1.out.n1 2
    have ls := HS1.out.sz
    have c0 : w1.cell? ⟨w.heap.size, 0, none⟩ = some (.int .i64 d.k) := by rw [Lib.cell_of_heap HS1.out.n0]; rfl
    have c1 : w1.cell? ⟨w.heap.size, 1, none⟩ = some (.string d.s) := by rw [Lib.cell_of_heap HS1.out.n0]; rfl
    have c2 : w1.cell? ⟨w.heap.size, 2, none⟩ = some (.slice pa d.ps.length pc) := by rw [Lib.cell_of_heap HS1.out.n0]; rfl
    have c3 : w1.cell? ⟨w.heap.size, 3, none⟩ = some (.slice ta d.t.length tc) := by rw [Lib.cell_of_heap HS1.out.n0]; rfl
    have c4 : w1.cell? ⟨w.heap.size, 4, none⟩ = some (.slice va d.v.length vc) := by rw [Lib.cell_of_heap HS1.out.n0]; rfl
    have c5 : w1.cell? ⟨w.heap.size, 5, none⟩ = some (.int .i64 d.f) := by rw [Lib.cell_of_heap HS1.out.n0]; rfl
    have c6 : w1.cell? ⟨w.heap.size, 6, none⟩ = some (.slice ca d.cs.length cc) := by rw [Lib.cell_of_heap HS1.out.n0]; rfl
    have l0 := lt_cell c0
    have hc20 := fields_cs hf
    by_cases h5 : d.k = 5
    · have b5 : (d.k == 5) = true := beq_iff_eq.2 h5
      have HE : Hid (declB d = true) := decl_quot hf h5
      go_wp2_with fail
      refine bodyPost_ret (v := .tuple #[.agg #[.pointer none, .pointer none, .slice none 0 0], .bool true]) (by simp [results, Tryz.results43, go_sem, r0, r1, r2]) rfl ?_
      have hl := HS1.out.last (((grown_set _ ⟨w.heap.size + 1, 0, none⟩ (.pointer none)).trans (grown_set _ ⟨w.heap.size + 1, 1, none⟩ (.pointer none))).trans (grown_set _ ⟨w.heap.size + 1, 2, none⟩ (.slice none 0 0)))
      exact ⟨⟨none, none, none, 0, 0, _, _, _, _, by rw [HE.out] <;> rfl, hl.1, fun x hx => ⟨hx, rfl⟩, fun _ q => absurd h5 q⟩, hl.2.1, hl.2.2⟩
    have b5 : (d.k == 5) = false := beq_eq_false_iff_ne.2 h5
    have HC := hide (HRT.out _ d.t HZ.out.t HM.out.t HD.out.t w1 _ _ _ _ HS1.out.bel HS1.out.st)
    go_wp2_with fail
    refine HC.out.mono ?_
    rintro e w2 ⟨⟨q1, clock2, L2, Z2, H2, rfl, hs2, hL2, hq1⟩, hb2, hk2⟩
    have HS2 := hide (HS1.out.call hs2 hb2 hk2)
    have HQ1 : Hid (RootAt d.t d.ps L2 Z2 q1) := hq1
    have HL2 := hide hL2
    clear hs2 hL2 hq1 hb2 hk2 HC HS1 c0 c1 c2 c3 c4 c5 c6 l0 t0 t1 t2 tf0 tf1 tf2 r0 r1 r2 rf0 rf1 rf2 ls
    have t0 : w2.cell? ⟨w.heap.size + 2, 0, none⟩ = some (.pointer none) := by rw [HS2.out.n2.cell 0 (by omega)]; rfl
    have tf0 : w2.frozen? ⟨w.heap.size + 2, 0, none⟩ = false := HS2.out.n2.frozen 0
    have t1 : w2.cell? ⟨w.heap.size + 2, 1, none⟩ = some (.pointer none) := by rw [HS2.out.n2.cell 1 (by omega)]; rfl
    have tf1 : w2.frozen? ⟨w.heap.size + 2, 1, none⟩ = false := HS2.out.n2.frozen 1
    have t2 : w2.cell? ⟨w.heap.size + 2, 2, none⟩ = some (.slice none 0 0) := by rw [HS2.out.n2.cell 2 (by omega)]; rfl
    have tf2 : w2.frozen? ⟨w.heap.size + 2, 2, none⟩ = false := HS2.out.n2.frozen 2
    have r0 : w2.cell? ⟨w.heap.size + 1, 0, none⟩ = some (.pointer none) := by rw [Lib.cell_of_heap HS2.out.n1]; rfl
    have rf0 : w2.frozen? ⟨w.heap.size + 1, 0, none⟩ = false := Lib.frozen_of_heap HS2.out.n1 0
    have r1 : w2.cell? ⟨w.heap.size + 1, 1, none⟩ = some (.pointer none) := by rw [Lib.cell_of_heap HS2.out.n1]; rfl
    have rf1 : w2.frozen? ⟨w.heap.size + 1, 1, none⟩ = false := Lib.frozen_of_heap HS2.out.n1 1
    have r2 : w2.cell? ⟨w.heap.size + 1, 2, none⟩ = some (.slice none 0 0) := by rw [Lib.cell_of_heap HS2.out.n1]; rfl
    have rf2 : w2.frozen? ⟨w.heap.size + 1, 2, none⟩ = false := Lib.frozen_of_heap HS2.out.n1 2
    have ls := HS2.out.sz
    cases hp : plainB d.t d.ps with
    | false =>
      have HE : Hid (declB d = false) := decl_type h5 hp
      go_wp2_with fail
      refine bodyPost_ret (v := .tuple #[.agg #[.pointer none, .pointer none, .slice none 0 0], .bool false]) (by simp [results, Tryz.results43, go_sem, r0, r1, r2]) rfl ?_
      have hl := HS2.out.last (((grown_set _ ⟨w.heap.size + 1, 0, none⟩ (.pointer none)).trans (grown_set _ ⟨w.heap.size + 1, 1, none⟩ (.pointer none))).trans (grown_set _ ⟨w.heap.size + 1, 2, none⟩ (.slice none 0 0)))
      exact ⟨⟨none, none, none, 0, 0, _, _, _, _, by rw [HE.out] <;> rfl, hl.1, HL2.out, fun q => absurd q (by rw [HE.out]; simp)⟩, hl.2.1, hl.2.2⟩
    | true =>
      have HE : Hid (A = ((!hasVal d.k || plainB d.v d.ps) && d.cs.all (fun c => plainB c.t d.ps))) := by show _ = _; rw [HA.out]; exact decl_rest hf h5 hp
      have HS3 := hide (HS2.out.set 0 (.pointer q1))
      have HX3 : Hid (w2.setCell ⟨w.heap.size + 2, 0, none⟩ (.pointer q1) = w2.setCell ⟨w.heap.size + 2, 0, none⟩ (.pointer q1)) := rfl
      obtain ⟨W3, hW3⟩ : ∃ W3, W3 = w2.setCell ⟨w.heap.size + 2, 0, none⟩ (.pointer q1) := ⟨_, rfl⟩
      rw [← hW3] at HS3
      have HV := hide (hasValue_any d.k W3)
      go_upto_region 10 with fail
      rw [← hW3]
      clear hW3 HX3 HS2 t0 t1 t2 tf0 tf1 tf2 r0 r1 r2 rf0 rf1 rf2 ls
      have HS3 : Hid (DSt w0 w #[.int .i64 d.k, .string d.s, .slice pa d.ps.length pc, .slice ta d.t.length tc, .slice va d.v.length vc, .int .i64 d.f, .slice ca d.cs.length cc] Sb mb gb [.pointer q1, .pointer none, .slice none 0 0] W3 clock2 L2 Z2 H2) := HS3
      have c0 : W3.cell? ⟨w.heap.size, 0, none⟩ = some (.int .i64 d.k) := by rw [Lib.cell_of_heap HS3.out.n0]; rfl
      have c1 : W3.cell? ⟨w.heap.size, 1, none⟩ = some (.string d.s) := by rw [Lib.cell_of_heap HS3.out.n0]; rfl
      have c2 : W3.cell? ⟨w.heap.size, 2, none⟩ = some (.slice pa d.ps.length pc) := by rw [Lib.cell_of_heap HS3.out.n0]; rfl
      have c3 : W3.cell? ⟨w.heap.size, 3, none⟩ = some (.slice ta d.t.length tc) := by rw [Lib.cell_of_heap HS3.out.n0]; rfl
      have c4 : W3.cell? ⟨w.heap.size, 4, none⟩ = some (.slice va d.v.length vc) := by rw [Lib.cell_of_heap HS3.out.n0]; rfl
      have c5 : W3.cell? ⟨w.heap.size, 5, none⟩ = some (.int .i64 d.f) := by rw [Lib.cell_of_heap HS3.out.n0]; rfl
      have c6 : W3.cell? ⟨w.heap.size, 6, none⟩ = some (.slice ca d.cs.length cc) := by rw [Lib.cell_of_heap HS3.out.n0]; rfl
      have l0 := lt_cell c0
      cases hv : hasVal d.k with
      | false =>
        rw [hv] at HV
        have HE5 : Hid (A = (true && d.cs.all (fun c => plainB c.t d.ps))) := by show _ = _; rw [HE.out, hv]; rfl
        have HQ2 : Hid (hasVal d.k = true → RootAt d.v d.ps L2 Z2 none) := fun q => absurd q (by rw [hv]; simp)
        go_upto_region 12 with (go_at_call 81; refine HV.out.mono ?_; rintro e w4 ⟨rfl, hw4⟩; have hw4 := hw4.symm; subst hw4)
        clear HV HE c0 c1 c2 c3 c4 c5 c6 l0
        obtain ⟨w5, hw5⟩ : ∃ w5, w5 = W3 := ⟨_, rfl⟩
        subst hw5
        have HS5 := HS3
        have HL5 := HL2
        obtain ⟨clock5, hc5⟩ : ∃ x, x = clock2 := ⟨_, rfl⟩
        subst hc5
        obtain ⟨L5, hc5⟩ : ∃ x, x = L2 := ⟨_, rfl⟩
        subst hc5
        obtain ⟨Z5, hc5⟩ : ∃ x, x = Z2 := ⟨_, rfl⟩
        subst hc5
        obtain ⟨H5, hc5⟩ : ∃ x, x = H2 := ⟨_, rfl⟩
        subst hc5
        have c6 : w5.cell? ⟨w.heap.size, 6, none⟩ = some (.slice ca d.cs.length cc) := by rw [Lib.cell_of_heap HS5.out.n0]; rfl
        have l6 := lt_cell c6
        have HO5 : Hid (w5.ownsRow (w.heap.size + 3) 61 1 (.slice none 0 0) 0 (([] : List (Option Addr)).map Value.pointer)) := ⟨rfl, .inl ⟨rfl, rfl⟩⟩
        have HR5 : Hid (RootAt d.t d.ps L5 Z5 q1 ∧ (hasVal d.k = true → RootAt d.v d.ps L5 Z5 none) ∧ ∀ i (h1 : i < ([] : List (Option Addr)).length) (h2 : i < d.cs.length), RootAt d.cs[i].t d.ps L5 Z5 ([] : List (Option Addr))[i]) := ⟨HQ1.out, HQ2.out, fun i h1 _ => absurd h1 (by simp)⟩
        go_wp2_with fail
        go_loopw [8, 51] (fun o i wr => ∃ (j clock : Nat) (L : List (Nk × Nat × Nat)) (Z : Nat → Zs) (H : Nat → Bool) (ad : Option Addr) (cp : Nat) (qs : List (Option Addr)) (bj : Bool), j ≤ d.cs.length ∧ i = .int .i64 j ∧ o = .bool bj ∧ Hid (bj = (true && (d.cs.take j).all (fun c => plainB c.t d.ps))) ∧ Hid (qs.length = j) ∧ Hid (DSt w0 w #[.int .i64 d.k, .string d.s, .slice pa d.ps.length pc, .slice ta d.t.length tc, .slice va d.v.length vc, .int .i64 d.f, .slice ca d.cs.length cc] Sb mb gb [.pointer q1, .pointer none, .slice ad j cp] wr clock L Z H) ∧ Hid (wr.ownsRow (w.heap.size + 3) 61 1 (.slice ad j cp) j (qs.map Value.pointer)) ∧ Hid (∀ x ∈ L0, x ∈ L ∧ Z x.2.1 = Z0 x.2.1) ∧ Hid (RootAt d.t d.ps L Z q1 ∧ (hasVal d.k = true → RootAt d.v d.ps L Z none) ∧ ∀ i (h1 : i < qs.length) (h2 : i < d.cs.length), RootAt d.cs[i].t d.ps L Z qs[i])) (fun _ i _ => d.cs.length - (intOf i).toNat)
        case atStart => exact ⟨0, clock5, L5, Z5, H5, none, 0, [], true, by omega, rfl, rfl, by show _ = _; simp, rfl, HS5, HO5, HL5, HR5⟩
        case round =>
          clear HO5 HR5 HS5 HL5 HQ1 HQ2 c6 l6
          obtain ⟨j, clock, L, Z, H, ad, cp, qs, bj, hj, rfl, rfl, HBJ, HPL, HSJ, HO, HLJ, HRJ⟩ := hrel
          by_cases hlt : j < d.cs.length
          · have hlt' : (j : Int) < d.cs.length := by omega
            obtain ⟨a', cap', e', _, _, hc0⟩ := HD.out.cs
            obtain ⟨b, off, ha, hc⟩ := hc0 (by omega)
            have ea : ca = some ⟨b, off, none⟩ := by rw [← ha]; injection e'
            subst ea
            obtain ⟨x1, u, x2, hu⟩ := hc j hlt
            have x1 := keep_cell HSJ.out.bel x1
            have x2 := keep_cell HSJ.out.bel x2
            obtain ⟨ua, uc, rfl⟩ := hu.form
            have HU := hide hu
            have HCZ := hide (HZ.out.cs d.cs[j] (List.getElem_mem hlt)).2
            have HCM := hide (HM.out.cs d.cs[j] (List.getElem_mem hlt))
            have HAT := hide (all_take (fun c => plainB c.t d.ps) d.cs j hlt)
            obtain ⟨c, hcj⟩ : ∃ c, c = d.cs[j] := ⟨_, rfl⟩
            rw [← hcj] at x1 x2 HU HCZ HCM HAT
            have HCJ := hide hcj
            clear hc hc0 e' ha hu hcj
            obtain ⟨W6, hW6⟩ : ∃ W6, W6 = wr.alloc (.cells #[.string c.s, .slice ua c.t.length uc] 73) := ⟨_, rfl⟩
            have hb6 : Below wr.heap.size wr W6 := by rw [hW6]; exact bel_alloc (Below.refl _ _) _
            have y1 : W6.cell? ⟨wr.heap.size, 1, none⟩ = some (.slice ua c.t.length uc) := by rw [hW6]; simp [go_sem]
            have ly := lt_cell y1
            have lx := lt_cell x1
            have HS6 := hide (HSJ.out.keep hb6)
            have HO6 := hide (row_keep hb6 HO.out)
            go_upto_region 15 with fail
            rw [← hW6]
            clear hW6 hb6 x1 x2 lx
            have c2 : W6.cell? ⟨w.heap.size, 2, none⟩ = some (.slice pa d.ps.length pc) := by rw [Lib.cell_of_heap HS6.out.n0]; rfl
            have l0 := lt_cell c2
            have HC := hide (HRT.out _ c.t HCZ.out HCM.out HU.out W6 _ _ _ _ HS6.out.bel HS6.out.st)
            go_wp2_with fail
            refine HC.out.mono ?_
            rintro e w7 ⟨⟨q, clock7, L7, Z7, H7, rfl, hs7, hL7, hq⟩, hb7, hk7⟩
            have HS7 := hide (HS6.out.call hs7 hb7 hk7)
            have HO7 : Hid (w7.ownsRow (w.heap.size + 3) 61 1 (.slice ad j cp) j (qs.map Value.pointer)) := row_same HO6.out (fun g hg => hk7.block g (World.ownsRow.lt HO6.out g hg).2 (by show ¬ g = mb; have := (World.ownsRow.lt HO6.out g hg).1; have := HSJ.out.mbl; omega))
            have HL7 := hide (more_trans HLJ.out hL7)
            have HR7 : Hid (RootAt d.t d.ps L7 Z7 q1 ∧ (hasVal d.k = true → RootAt d.v d.ps L7 Z7 none) ∧ ∀ i (h1 : i < (qs ++ [q]).length) (h2 : i < d.cs.length), RootAt d.cs[i].t d.ps L7 Z7 (qs ++ [q])[i]) := by
              refine ⟨HRJ.out.1.more hL7, fun hv => (HRJ.out.2.1 hv).more hL7, fun i h1 h2 => ?_⟩
              have hpl := HPL.out
              by_cases e : i < j
              · have e2 : (qs ++ [q])[i] = qs[i]'(by omega) := List.getElem_append_left (by omega)
                rw [e2]
                exact (HRJ.out.2.2 i (by omega) h2).more hL7
              · have ei : i = j := by simp at h1; omega
                subst ei
                have e2 : (qs ++ [q])[i] = q := by simp [hpl]
                rw [e2, ← HCJ.out]
                exact hq
            have HB7 : Hid (∀ b, b = (bj && plainB c.t d.ps) → b = (true && (d.cs.take (j + 1)).all (fun c => plainB c.t d.ps))) := fun b hb => by rw [hb, HBJ.out, HAT.out, Bool.and_assoc]
            clear hs7 hL7 hq hb7 hk7 HC HS6 HO6 y1 ly c2 l0 HU HCZ HCM HAT HCJ HLJ HRJ HSJ HO HBJ
            obtain ⟨pl, hpl⟩ : ∃ pl, pl = plainB c.t d.ps := ⟨_, rfl⟩
            rw [← hpl] at HB7 ⊢
            clear hpl
            have t2 : w7.cell? ⟨w.heap.size + 2, 2, none⟩ = some (.slice ad j cp) := by rw [HS7.out.n2.cell 2 (by omega)]; rfl
            have lt2 := lt_cell t2
            obtain ⟨W8, hW8⟩ : ∃ W8, W8 = w7.alloc (.cells #[.pointer q] 61) := ⟨_, rfl⟩
            have hb8 : Below w7.heap.size w7 W8 := by rw [hW8]; exact bel_alloc (Below.refl _ _) _
            have hh8 : W8.heap[w7.heap.size]? = some (.cells #[.pointer q] 61 (0, 0)) := by rw [hW8]; exact heap_alloc_new w7 _
            have HO8 := hide (row_keep hb8 HO7.out)
            have HS8 := hide (HS7.out.keep hb8)
            have hs8 := HS8.out.sz
            have hs8b : w7.heap.size < W8.heap.size := by rw [hW8]; simp
            clear hb8 HO7 HS7
            have HSA : Hid (∀ (g9 cap9 : Nat) (w9 : World), w9.ownsRow (w.heap.size + 3) 61 1 (.slice (some ⟨g9, 0, none⟩) (j + 1) cap9) (j + 1) (qs.map Value.pointer ++ [.pointer q]) → W8.grownBy w9 (Value.slice ad j cp).ownBlock → (w9.cell? ⟨w.heap.size + 2, 2, none⟩ = some (.slice ad j cp) ∧ w9.frozen? ⟨w.heap.size + 2, 2, none⟩ = false) ∧ DSt w0 w #[.int .i64 d.k, .string d.s, .slice pa d.ps.length pc, .slice ta d.t.length tc, .slice va d.v.length vc, .int .i64 d.f, .slice (some ⟨b, off, none⟩) d.cs.length cc] Sb mb gb [.pointer q1, .pointer none, .slice (some ⟨g9, 0, none⟩) (j + 1) cap9] (w9.setCell ⟨w.heap.size + 2, 2, none⟩ (.slice (some ⟨g9, 0, none⟩) (j + 1) cap9)) clock7 L7 Z7 H7 ∧ (w9.setCell ⟨w.heap.size + 2, 2, none⟩ (.slice (some ⟨g9, 0, none⟩) (j + 1) cap9)).ownsRow (w.heap.size + 3) 61 1 (.slice (some ⟨g9, 0, none⟩) (j + 1) cap9) (j + 1) ((qs ++ [q]).map Value.pointer)) := fun g9 cap9 w9 hown9 hgrow9 => by
              have HS9 := HS8.out.row HO8.out hgrow9
              have hgl := World.ownsRow.lt hown9 g9 rfl
              refine ⟨⟨by rw [HS9.n2.cell 2 (by omega)]; rfl, HS9.n2.frozen 2⟩, HS9.set 2 _, ?_⟩
              rw [List.map_append]
              refine row_same hown9 (fun g hg => ?_)
              have e : g9 = g := by simpa [Value.ownBlock] using hg
              subst e
              exact (grown_set w9 ⟨w.heap.size + 2, 2, none⟩ _).block g9 hgl.2 (fun e => by have : g9 = w.heap.size + 2 := Option.some.inj e; omega)
            have HP9 : Hid ((qs ++ [q]).length = j + 1) := by show _ = _; rw [List.length_append, HPL.out]; rfl
            cases bj
            all_goals (
              go_wp2_with (first
                | (at_builtin
                   rw [← hW8]
                   refine wpList_append_lies _ rfl _ _ 62 rfl (w.heap.size + 3) 61 ip (.pointer none) 1 8 Tryz.underlying62 hip hzp hsp1 hbp rfl (by omega) (.slice ad j cp) j (qs.map Value.pointer) rfl HO8.out ⟨w7.heap.size, 0, none⟩ 1 1 [.pointer q] rfl rfl (World.news_of_block (cs := #[.pointer q]) (t := 61) (fr := (0, 0)) hh8) (by intro u hu; simp at hu; rcases hu with rfl; rfl) (by omega) (by unfold maxLen; omega) (by omega) (by omega) W8.heap.size rfl ?_)
                | fail)
              intro g9 cap9 w9 hown9 hgrow9 hat9 hlt9
              rw [← hW8] at hgrow9
              obtain ⟨⟨t9, f9⟩, hs9, ho9⟩ := HSA.out g9 cap9 w9 hown9 hgrow9
              have HS9 := hide hs9
              have HO9 := hide ho9
              have l9 := lt_cell t9
              clear hs8 hs8b hs9 ho9 hown9 hgrow9 hat9 hlt9 t2 lt2 hW8 hh8 HO8 HS8 HSA
              go_wp2_with fail
              go_roundw
              case rel => exact ⟨j + 1, clock7, L7, Z7, H7, some ⟨g9, 0, none⟩, cap9, qs ++ [q], _, hlt, by go_num, rfl, HB7.out _ rfl, HP9, HS9, HO9, HL7, HR7⟩
              case measure => simp [intOf]; omega)
          · have hlt' : ¬ (j : Int) < d.cs.length := by omega
            have e : j = d.cs.length := by omega
            have HE7 : Hid (declB d = bj) := by
              show _ = _
              rw [← HA.out, HE5.out, HBJ.out, e, List.take_length]
            subst e
            have t0 : wr.cell? ⟨w.heap.size + 2, 0, none⟩ = some (.pointer q1) := by rw [HSJ.out.n2.cell 0 (by omega)]; rfl
            have tf0 : wr.frozen? ⟨w.heap.size + 2, 0, none⟩ = false := HSJ.out.n2.frozen 0
            have t1 : wr.cell? ⟨w.heap.size + 2, 1, none⟩ = some (.pointer none) := by rw [HSJ.out.n2.cell 1 (by omega)]; rfl
            have tf1 : wr.frozen? ⟨w.heap.size + 2, 1, none⟩ = false := HSJ.out.n2.frozen 1
            have t2 : wr.cell? ⟨w.heap.size + 2, 2, none⟩ = some (.slice ad d.cs.length cp) := by rw [HSJ.out.n2.cell 2 (by omega)]; rfl
            have tf2 : wr.frozen? ⟨w.heap.size + 2, 2, none⟩ = false := HSJ.out.n2.frozen 2
            have r0 : wr.cell? ⟨w.heap.size + 1, 0, none⟩ = some (.pointer none) := by rw [Lib.cell_of_heap HSJ.out.n1]; rfl
            have rf0 : wr.frozen? ⟨w.heap.size + 1, 0, none⟩ = false := Lib.frozen_of_heap HSJ.out.n1 0
            have r1 : wr.cell? ⟨w.heap.size + 1, 1, none⟩ = some (.pointer none) := by rw [Lib.cell_of_heap HSJ.out.n1]; rfl
            have rf1 : wr.frozen? ⟨w.heap.size + 1, 1, none⟩ = false := Lib.frozen_of_heap HSJ.out.n1 1
            have r2 : wr.cell? ⟨w.heap.size + 1, 2, none⟩ = some (.slice none 0 0) := by rw [Lib.cell_of_heap HSJ.out.n1]; rfl
            have rf2 : wr.frozen? ⟨w.heap.size + 1, 2, none⟩ = false := Lib.frozen_of_heap HSJ.out.n1 2
            have ls := HSJ.out.sz
            go_wp2_with fail
            refine bodyPost_ret (v := .tuple #[.agg #[.pointer q1, .pointer none, .slice ad d.cs.length cp], .bool bj]) (by simp [results, Tryz.results43, go_sem, r0, r1, r2]) rfl ?_
            have hgF : wr.grownBy (((wr.setCell ⟨w.heap.size + 1, 0, none⟩ (.pointer q1)).setCell ⟨w.heap.size + 1, 1, none⟩ (.pointer none)).setCell ⟨w.heap.size + 1, 2, none⟩ (.slice ad d.cs.length cp)) (some (w.heap.size + 1)) := ((grown_set _ ⟨w.heap.size + 1, 0, none⟩ (.pointer q1)).trans (grown_set _ ⟨w.heap.size + 1, 1, none⟩ (.pointer none))).trans (grown_set _ ⟨w.heap.size + 1, 2, none⟩ (.slice ad d.cs.length cp))
            have hl := HSJ.out.last hgF
            have hro := row_same HO.out (fun g hg => hgF.block g (World.ownsRow.lt HO.out g hg).2 (fun e => by have h1 : g = w.heap.size + 1 := Option.some.inj e; have := (World.ownsRow.lt HO.out g hg).1; omega))
            exact ⟨⟨q1, none, ad, d.cs.length, cp, _, _, _, _, by rw [HE7.out] <;> rfl, hl.1, HLJ.out, fun _ _ => ⟨HRJ.out.1, HRJ.out.2.1, qs, HPL.out, World.ownsRow.mono hro (by have := HSJ.out.w0l; omega), HRJ.out.2.2⟩⟩, hl.2.1, hl.2.2⟩

      | true =>
        rw [hv] at HV
        have HE5 : Hid (A = (plainB d.v d.ps && d.cs.all (fun c => plainB c.t d.ps))) := by show _ = _; rw [HE.out, hv]; rfl
        have HC := hide (HRT.out _ d.v HZ.out.v HM.out.v HD.out.v W3 _ _ _ _ HS3.out.bel HS3.out.st)
        go_upto_region 11 with (go_at_call 81; refine HV.out.mono ?_; rintro e w4 ⟨rfl, hw4⟩; have hw4 := hw4.symm; subst hw4)
        clear HV HE
        go_wp2_with fail
        refine HC.out.mono ?_
        rintro e w4 ⟨⟨q2, clock5, L5, Z5, H5, rfl, hs4, hL4, hq2⟩, hb4, hk4⟩
        have HS4 := hide (HS3.out.call hs4 hb4 hk4)
        have HL5 := hide (more_trans HL2.out hL4)
        have HQ1 : Hid (RootAt d.t d.ps L5 Z5 q1) := HQ1.out.more hL4
        have HQ2 : Hid (hasVal d.k = true → RootAt d.v d.ps L5 Z5 q2) := fun _ => hq2
        have HS5 := hide (HS4.out.set 1 (.pointer q2))
        have t1 : w4.cell? ⟨w.heap.size + 2, 1, none⟩ = some (.pointer none) := by rw [HS4.out.n2.cell 1 (by omega)]; rfl
        have tf1 : w4.frozen? ⟨w.heap.size + 2, 1, none⟩ = false := HS4.out.n2.frozen 1
        have lt1 := lt_cell t1
        clear hs4 hL4 hq2 hb4 hk4 HC HS3 HL2 c0 c1 c2 c3 c4 c5 c6 l0
        obtain ⟨pv5, hpv5⟩ : ∃ x, x = plainB d.v d.ps := ⟨_, rfl⟩
        rw [← hpv5] at HE5 ⊢
        clear hpv5
        obtain ⟨w5, hw5⟩ : ∃ w5, w5 = w4.setCell ⟨w.heap.size + 2, 1, none⟩ (.pointer q2) := ⟨_, rfl⟩
        rw [← hw5] at HS5
        go_upto_region 12 with fail
        rw [← hw5]
        clear hw5 t1 tf1 lt1 HS4
        have HS5 : Hid (DSt w0 w #[.int .i64 d.k, .string d.s, .slice pa d.ps.length pc, .slice ta d.t.length tc, .slice va d.v.length vc, .int .i64 d.f, .slice ca d.cs.length cc] Sb mb gb [.pointer q1, .pointer q2, .slice none 0 0] w5 clock5 L5 Z5 H5) := HS5
        have c6 : w5.cell? ⟨w.heap.size, 6, none⟩ = some (.slice ca d.cs.length cc) := by rw [Lib.cell_of_heap HS5.out.n0]; rfl
        have l6 := lt_cell c6
        have HO5 : Hid (w5.ownsRow (w.heap.size + 3) 61 1 (.slice none 0 0) 0 (([] : List (Option Addr)).map Value.pointer)) := ⟨rfl, .inl ⟨rfl, rfl⟩⟩
        have HR5 : Hid (RootAt d.t d.ps L5 Z5 q1 ∧ (hasVal d.k = true → RootAt d.v d.ps L5 Z5 q2) ∧ ∀ i (h1 : i < ([] : List (Option Addr)).length) (h2 : i < d.cs.length), RootAt d.cs[i].t d.ps L5 Z5 ([] : List (Option Addr))[i]) := ⟨HQ1.out, HQ2.out, fun i h1 _ => absurd h1 (by simp)⟩
        go_wp2_with fail
        go_loopw [8, 51] (fun o i wr => ∃ (j clock : Nat) (L : List (Nk × Nat × Nat)) (Z : Nat → Zs) (H : Nat → Bool) (ad : Option Addr) (cp : Nat) (qs : List (Option Addr)) (bj : Bool), j ≤ d.cs.length ∧ i = .int .i64 j ∧ o = .bool bj ∧ Hid (bj = (pv5 && (d.cs.take j).all (fun c => plainB c.t d.ps))) ∧ Hid (qs.length = j) ∧ Hid (DSt w0 w #[.int .i64 d.k, .string d.s, .slice pa d.ps.length pc, .slice ta d.t.length tc, .slice va d.v.length vc, .int .i64 d.f, .slice ca d.cs.length cc] Sb mb gb [.pointer q1, .pointer q2, .slice ad j cp] wr clock L Z H) ∧ Hid (wr.ownsRow (w.heap.size + 3) 61 1 (.slice ad j cp) j (qs.map Value.pointer)) ∧ Hid (∀ x ∈ L0, x ∈ L ∧ Z x.2.1 = Z0 x.2.1) ∧ Hid (RootAt d.t d.ps L Z q1 ∧ (hasVal d.k = true → RootAt d.v d.ps L Z q2) ∧ ∀ i (h1 : i < qs.length) (h2 : i < d.cs.length), RootAt d.cs[i].t d.ps L Z qs[i])) (fun _ i _ => d.cs.length - (intOf i).toNat)
        case atStart => exact ⟨0, clock5, L5, Z5, H5, none, 0, [], pv5, by omega, rfl, rfl, by show _ = _; simp, rfl, HS5, HO5, HL5, HR5⟩
        case round =>
          clear HO5 HR5 HS5 HL5 HQ1 HQ2 c6 l6
          obtain ⟨j, clock, L, Z, H, ad, cp, qs, bj, hj, rfl, rfl, HBJ, HPL, HSJ, HO, HLJ, HRJ⟩ := hrel
          by_cases hlt : j < d.cs.length
          · have hlt' : (j : Int) < d.cs.length := by omega
            obtain ⟨a', cap', e', _, _, hc0⟩ := HD.out.cs
            obtain ⟨b, off, ha, hc⟩ := hc0 (by omega)
            have ea : ca = some ⟨b, off, none⟩ := by rw [← ha]; injection e'
            subst ea
            obtain ⟨x1, u, x2, hu⟩ := hc j hlt
            have x1 := keep_cell HSJ.out.bel x1
            have x2 := keep_cell HSJ.out.bel x2
            obtain ⟨ua, uc, rfl⟩ := hu.form
            have HU := hide hu
            have HCZ := hide (HZ.out.cs d.cs[j] (List.getElem_mem hlt)).2
            have HCM := hide (HM.out.cs d.cs[j] (List.getElem_mem hlt))
            have HAT := hide (all_take (fun c => plainB c.t d.ps) d.cs j hlt)
            obtain ⟨c, hcj⟩ : ∃ c, c = d.cs[j] := ⟨_, rfl⟩
            rw [← hcj] at x1 x2 HU HCZ HCM HAT
            have HCJ := hide hcj
            clear hc hc0 e' ha hu hcj
            obtain ⟨W6, hW6⟩ : ∃ W6, W6 = wr.alloc (.cells #[.string c.s, .slice ua c.t.length uc] 73) := ⟨_, rfl⟩
            have hb6 : Below wr.heap.size wr W6 := by rw [hW6]; exact bel_alloc (Below.refl _ _) _
            have y1 : W6.cell? ⟨wr.heap.size, 1, none⟩ = some (.slice ua c.t.length uc) := by rw [hW6]; simp [go_sem]
            have ly := lt_cell y1
            have lx := lt_cell x1
            have HS6 := hide (HSJ.out.keep hb6)
            have HO6 := hide (row_keep hb6 HO.out)
            go_upto_region 15 with fail
            rw [← hW6]
            clear hW6 hb6 x1 x2 lx
            have c2 : W6.cell? ⟨w.heap.size, 2, none⟩ = some (.slice pa d.ps.length pc) := by rw [Lib.cell_of_heap HS6.out.n0]; rfl
            have l0 := lt_cell c2
            have HC := hide (HRT.out _ c.t HCZ.out HCM.out HU.out W6 _ _ _ _ HS6.out.bel HS6.out.st)
            go_wp2_with fail
            refine HC.out.mono ?_
            rintro e w7 ⟨⟨q, clock7, L7, Z7, H7, rfl, hs7, hL7, hq⟩, hb7, hk7⟩
            have HS7 := hide (HS6.out.call hs7 hb7 hk7)
            have HO7 : Hid (w7.ownsRow (w.heap.size + 3) 61 1 (.slice ad j cp) j (qs.map Value.pointer)) := row_same HO6.out (fun g hg => hk7.block g (World.ownsRow.lt HO6.out g hg).2 (by show ¬ g = mb; have := (World.ownsRow.lt HO6.out g hg).1; have := HSJ.out.mbl; omega))
            have HL7 := hide (more_trans HLJ.out hL7)
            have HR7 : Hid (RootAt d.t d.ps L7 Z7 q1 ∧ (hasVal d.k = true → RootAt d.v d.ps L7 Z7 q2) ∧ ∀ i (h1 : i < (qs ++ [q]).length) (h2 : i < d.cs.length), RootAt d.cs[i].t d.ps L7 Z7 (qs ++ [q])[i]) := by
              refine ⟨HRJ.out.1.more hL7, fun hv => (HRJ.out.2.1 hv).more hL7, fun i h1 h2 => ?_⟩
              have hpl := HPL.out
              by_cases e : i < j
              · have e2 : (qs ++ [q])[i] = qs[i]'(by omega) := List.getElem_append_left (by omega)
                rw [e2]
                exact (HRJ.out.2.2 i (by omega) h2).more hL7
              · have ei : i = j := by simp at h1; omega
                subst ei
                have e2 : (qs ++ [q])[i] = q := by simp [hpl]
                rw [e2, ← HCJ.out]
                exact hq
            have HB7 : Hid (∀ b, b = (bj && plainB c.t d.ps) → b = (pv5 && (d.cs.take (j + 1)).all (fun c => plainB c.t d.ps))) := fun b hb => by rw [hb, HBJ.out, HAT.out, Bool.and_assoc]
            clear hs7 hL7 hq hb7 hk7 HC HS6 HO6 y1 ly c2 l0 HU HCZ HCM HAT HCJ HLJ HRJ HSJ HO HBJ
            obtain ⟨pl, hpl⟩ : ∃ pl, pl = plainB c.t d.ps := ⟨_, rfl⟩
            rw [← hpl] at HB7 ⊢
            clear hpl
            have t2 : w7.cell? ⟨w.heap.size + 2, 2, none⟩ = some (.slice ad j cp) := by rw [HS7.out.n2.cell 2 (by omega)]; rfl
            have lt2 := lt_cell t2
            obtain ⟨W8, hW8⟩ : ∃ W8, W8 = w7.alloc (.cells #[.pointer q] 61) := ⟨_, rfl⟩
            have hb8 : Below w7.heap.size w7 W8 := by rw [hW8]; exact bel_alloc (Below.refl _ _) _
            have hh8 : W8.heap[w7.heap.size]? = some (.cells #[.pointer q] 61 (0, 0)) := by rw [hW8]; exact heap_alloc_new w7 _
            have HO8 := hide (row_keep hb8 HO7.out)
            have HS8 := hide (HS7.out.keep hb8)
            have hs8 := HS8.out.sz
            have hs8b : w7.heap.size < W8.heap.size := by rw [hW8]; simp
            clear hb8 HO7 HS7
            have HSA : Hid (∀ (g9 cap9 : Nat) (w9 : World), w9.ownsRow (w.heap.size + 3) 61 1 (.slice (some ⟨g9, 0, none⟩) (j + 1) cap9) (j + 1) (qs.map Value.pointer ++ [.pointer q]) → W8.grownBy w9 (Value.slice ad j cp).ownBlock → (w9.cell? ⟨w.heap.size + 2, 2, none⟩ = some (.slice ad j cp) ∧ w9.frozen? ⟨w.heap.size + 2, 2, none⟩ = false) ∧ DSt w0 w #[.int .i64 d.k, .string d.s, .slice pa d.ps.length pc, .slice ta d.t.length tc, .slice va d.v.length vc, .int .i64 d.f, .slice (some ⟨b, off, none⟩) d.cs.length cc] Sb mb gb [.pointer q1, .pointer q2, .slice (some ⟨g9, 0, none⟩) (j + 1) cap9] (w9.setCell ⟨w.heap.size + 2, 2, none⟩ (.slice (some ⟨g9, 0, none⟩) (j + 1) cap9)) clock7 L7 Z7 H7 ∧ (w9.setCell ⟨w.heap.size + 2, 2, none⟩ (.slice (some ⟨g9, 0, none⟩) (j + 1) cap9)).ownsRow (w.heap.size + 3) 61 1 (.slice (some ⟨g9, 0, none⟩) (j + 1) cap9) (j + 1) ((qs ++ [q]).map Value.pointer)) := fun g9 cap9 w9 hown9 hgrow9 => by
              have HS9 := HS8.out.row HO8.out hgrow9
              have hgl := World.ownsRow.lt hown9 g9 rfl
              refine ⟨⟨by rw [HS9.n2.cell 2 (by omega)]; rfl, HS9.n2.frozen 2⟩, HS9.set 2 _, ?_⟩
              rw [List.map_append]
              refine row_same hown9 (fun g hg => ?_)
              have e : g9 = g := by simpa [Value.ownBlock] using hg
              subst e
              exact (grown_set w9 ⟨w.heap.size + 2, 2, none⟩ _).block g9 hgl.2 (fun e => by have : g9 = w.heap.size + 2 := Option.some.inj e; omega)
            have HP9 : Hid ((qs ++ [q]).length = j + 1) := by show _ = _; rw [List.length_append, HPL.out]; rfl
            cases bj
            all_goals (
              go_wp2_with (first
                | (at_builtin
                   rw [← hW8]
                   refine wpList_append_lies _ rfl _ _ 62 rfl (w.heap.size + 3) 61 ip (.pointer none) 1 8 Tryz.underlying62 hip hzp hsp1 hbp rfl (by omega) (.slice ad j cp) j (qs.map Value.pointer) rfl HO8.out ⟨w7.heap.size, 0, none⟩ 1 1 [.pointer q] rfl rfl (World.news_of_block (cs := #[.pointer q]) (t := 61) (fr := (0, 0)) hh8) (by intro u hu; simp at hu; rcases hu with rfl; rfl) (by omega) (by unfold maxLen; omega) (by omega) (by omega) W8.heap.size rfl ?_)
                | fail)
              intro g9 cap9 w9 hown9 hgrow9 hat9 hlt9
              rw [← hW8] at hgrow9
              obtain ⟨⟨t9, f9⟩, hs9, ho9⟩ := HSA.out g9 cap9 w9 hown9 hgrow9
              have HS9 := hide hs9
              have HO9 := hide ho9
              have l9 := lt_cell t9
              clear hs8 hs8b hs9 ho9 hown9 hgrow9 hat9 hlt9 t2 lt2 hW8 hh8 HO8 HS8 HSA
              go_wp2_with fail
              go_roundw
              case rel => exact ⟨j + 1, clock7, L7, Z7, H7, some ⟨g9, 0, none⟩, cap9, qs ++ [q], _, hlt, by go_num, rfl, HB7.out _ rfl, HP9, HS9, HO9, HL7, HR7⟩
              case measure => simp [intOf]; omega)
          · have hlt' : ¬ (j : Int) < d.cs.length := by omega
            have e : j = d.cs.length := by omega
            have HE7 : Hid (declB d = bj) := by
              show _ = _
              rw [← HA.out, HE5.out, HBJ.out, e, List.take_length]
            subst e
            have t0 : wr.cell? ⟨w.heap.size + 2, 0, none⟩ = some (.pointer q1) := by rw [HSJ.out.n2.cell 0 (by omega)]; rfl
            have tf0 : wr.frozen? ⟨w.heap.size + 2, 0, none⟩ = false := HSJ.out.n2.frozen 0
            have t1 : wr.cell? ⟨w.heap.size + 2, 1, none⟩ = some (.pointer q2) := by rw [HSJ.out.n2.cell 1 (by omega)]; rfl
            have tf1 : wr.frozen? ⟨w.heap.size + 2, 1, none⟩ = false := HSJ.out.n2.frozen 1
            have t2 : wr.cell? ⟨w.heap.size + 2, 2, none⟩ = some (.slice ad d.cs.length cp) := by rw [HSJ.out.n2.cell 2 (by omega)]; rfl
            have tf2 : wr.frozen? ⟨w.heap.size + 2, 2, none⟩ = false := HSJ.out.n2.frozen 2
            have r0 : wr.cell? ⟨w.heap.size + 1, 0, none⟩ = some (.pointer none) := by rw [Lib.cell_of_heap HSJ.out.n1]; rfl
            have rf0 : wr.frozen? ⟨w.heap.size + 1, 0, none⟩ = false := Lib.frozen_of_heap HSJ.out.n1 0
            have r1 : wr.cell? ⟨w.heap.size + 1, 1, none⟩ = some (.pointer none) := by rw [Lib.cell_of_heap HSJ.out.n1]; rfl
            have rf1 : wr.frozen? ⟨w.heap.size + 1, 1, none⟩ = false := Lib.frozen_of_heap HSJ.out.n1 1
            have r2 : wr.cell? ⟨w.heap.size + 1, 2, none⟩ = some (.slice none 0 0) := by rw [Lib.cell_of_heap HSJ.out.n1]; rfl
            have rf2 : wr.frozen? ⟨w.heap.size + 1, 2, none⟩ = false := Lib.frozen_of_heap HSJ.out.n1 2
            have ls := HSJ.out.sz
            go_wp2_with fail
            refine bodyPost_ret (v := .tuple #[.agg #[.pointer q1, .pointer q2, .slice ad d.cs.length cp], .bool bj]) (by simp [results, Tryz.results43, go_sem, r0, r1, r2]) rfl ?_
            have hgF : wr.grownBy (((wr.setCell ⟨w.heap.size + 1, 0, none⟩ (.pointer q1)).setCell ⟨w.heap.size + 1, 1, none⟩ (.pointer q2)).setCell ⟨w.heap.size + 1, 2, none⟩ (.slice ad d.cs.length cp)) (some (w.heap.size + 1)) := ((grown_set _ ⟨w.heap.size + 1, 0, none⟩ (.pointer q1)).trans (grown_set _ ⟨w.heap.size + 1, 1, none⟩ (.pointer q2))).trans (grown_set _ ⟨w.heap.size + 1, 2, none⟩ (.slice ad d.cs.length cp))
            have hl := HSJ.out.last hgF
            have hro := row_same HO.out (fun g hg => hgF.block g (World.ownsRow.lt HO.out g hg).2 (fun e => by have h1 : g = w.heap.size + 1 := Option.some.inj e; have := (World.ownsRow.lt HO.out g hg).1; omega))
            exact ⟨⟨q1, q2, ad, d.cs.length, cp, _, _, _, _, by rw [HE7.out] <;> rfl, hl.1, HLJ.out, fun _ _ => ⟨HRJ.out.1, HRJ.out.2.1, qs, HPL.out, World.ownsRow.mono hro (by have := HSJ.out.w0l; omega), HRJ.out.2.2⟩⟩, hl.2.1, hl.2.2⟩

end Go.Proofs.YtpmpooekpeocdaaGreat
