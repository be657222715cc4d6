/- What the specification's l3Make answers: the walk. -/
import Derived.Test.YtcagcfhnbphggaaGreatDoorTMk
namespace Go.Proofs.YtcagcfhnbphggaaGreatDoor
open Go.ChangeShapes Go.WideShapes Go.ChangeAt Go.RowKit

theorem TnAt.drew {base : Nat} {w : World} {g : Nat} {xs : List Value} (h : TnAt base w g xs) : TnAt base w.drew g xs := h
theorem tn_new (w : World) (k n m : Int) (s : ByteArray) (lv kv : Value) (z : Zs) : TnAt w.heap.size (w.alloc (.cells #[.int .i64 k, .int .i64 n, .int .i64 m, .string s, lv, kv, .int .i64 z.sz, .int .i64 z.lo, .bool z.ho] 66)) w.heap.size (tnL k n m s lv kv z) :=
  World.ownsRow_lit w _ 1 (Nat.le_refl _) (by unfold maxLen; omega) rfl
theorem tn_cells {base : Nat} {w : World} {g : Nat} {k n m : Int} {s : ByteArray} {lv kv : Value} {z : Zs} (h : TnAt base w g (tnL k n m s lv kv z)) : w.cell? ⟨g, 6, none⟩ = some (.int .i64 z.sz) ∧ w.cell? ⟨g, 7, none⟩ = some (.int .i64 z.lo) ∧ w.cell? ⟨g, 8, none⟩ = some (.bool z.ho) ∧ (∀ o, w.frozen? ⟨g, o, none⟩ = false) :=
  ⟨by rw [World.ownsRow.cellAt h 6 (by omega)]; rfl, by rw [World.ownsRow.cellAt h 7 (by omega)]; rfl, by rw [World.ownsRow.cellAt h 8 (by omega)]; rfl, fun o => World.ownsRow.frozenAt h o⟩
theorem tn_set6 {base : Nat} {w : World} {g : Nat} {k n m : Int} {s : ByteArray} {lv kv : Value} {z : Zs} (h : TnAt base w g (tnL k n m s lv kv z)) (q : Int) : TnAt base (w.setCell ⟨g, 6, none⟩ (.int .i64 q)) g (tnL k n m s lv kv ⟨q, z.lo, z.ho⟩) := (World.ownsRow.stored h 6 (.int .i64 q)).1
theorem tn_set7 {base : Nat} {w : World} {g : Nat} {k n m : Int} {s : ByteArray} {lv kv : Value} {z : Zs} (h : TnAt base w g (tnL k n m s lv kv z)) (q : Int) : TnAt base (w.setCell ⟨g, 7, none⟩ (.int .i64 q)) g (tnL k n m s lv kv ⟨z.sz, q, z.ho⟩) := (World.ownsRow.stored h 7 (.int .i64 q)).1
theorem tn_set8 {base : Nat} {w : World} {g : Nat} {k n m : Int} {s : ByteArray} {lv kv : Value} {z : Zs} (h : TnAt base w g (tnL k n m s lv kv z)) (q : Bool) : TnAt base (w.setCell ⟨g, 8, none⟩ (.bool q)) g (tnL k n m s lv kv ⟨z.sz, z.lo, q⟩) := (World.ownsRow.stored h 8 (.bool q)).1
theorem bel_set {w w1 : World} (h : Below w.heap.size w w1) (o : Nat) (u : Value) : Below w.heap.size w (w1.setCell ⟨w.heap.size, o, none⟩ u) := h.setCell (p := ⟨_, _, _⟩) (Nat.le_refl _) _

set_option maxRecDepth 20000 in
set_option maxHeartbeats 4000000 in
theorem l3Make_any (k n m : Int) (s : ByteArray) (lvv kdv : Value) (nl : Nat) (ps : List Nat) (zs : List Zs) (w : World) (hlv : LevRow w lvv nl) (hk : PtrRow w kdv ps) (hzl : zs.length = ps.length) (hz : ∀ j (h1 : j < ps.length) (h2 : j < zs.length), SzAt w ps[j] zs[j]) (hok : ∀ z ∈ zs, ZOk z) (hsum : 1 + sumZ zs ≤ 20000) (hn : k = 1 → 0 ≤ n ∧ n ≤ 20000) (hk1 : k = 1 → ps = []) :
    Calls Tryz.prog 25 #[.int .i64 k, .int .i64 n, .int .i64 m, .string s, lvv, kdv] w fun e w' => e = .returned (ptrV w.heap.size) ∧ TnAt w.heap.size w' w.heap.size (tnL k n m s lvv kdv (zmk k n zs)) ∧ Below w.heap.size w w' := by
  obtain ⟨lps, lus, hll, hlr, hlt⟩ := hlv
  have HLT := hide hlt
  obtain ⟨la, lc, rfl, hlc1, hlc2, hlcell⟩ := hlr
  have HLC : Hid (0 < lps.length → ∃ b off, la = some ⟨b, off, none⟩ ∧ ∀ j (h : j < lps.length), w.cell? ⟨b, off + j, none⟩ = some (ptrV lps[j])) := hlcell
  subst hll
  obtain ⟨ka, kc, rfl, hkc1, hkc2, hkcell⟩ := hk
  have HKC : Hid (0 < ps.length → ∃ b off, ka = some ⟨b, off, none⟩ ∧ ∀ j (h : j < ps.length), w.cell? ⟨b, off + j, none⟩ = some (ptrV ps[j])) := hkcell
  have HZ := hide hz
  have HOK := hide hok
  have HZL := hide hzl
  have HSUM := hide hsum
  unfold maxLen at hlc2 hkc2
  have hpl : ps.length ≤ 20000 := by have := sumZ_nonneg zs (fun z hz => (hok z hz).1); omega
  clear hlt hlcell hkcell hz hok hzl hsum
  by_cases hk1' : k = 1
  · have hps := hk1 hk1'
    obtain ⟨hn0, hn1⟩ := hn hk1'
    have hz0 : zs = [] := List.eq_nil_of_length_eq_zero (by have := HZL.out; rw [this, hps]; rfl)
    subst hk1'
    have hwn : IntKind.i64.wrap (n + 1) = n + 1 := by rw [IntKind.wrap_i64]; omega
    have dn : decide (20000 < n) = false := by simp; omega
    have HX : Hid (zmk 1 n zs = ⟨1, n + 1, false⟩) := by show _ = _; rw [hz0]; rfl
    subst hps
    simp only [List.length_nil] at *
    have HT0 := hide (tn_new w 1 n m s (.slice la lps.length lc) (.slice ka 0 kc) ⟨1, n + 1, false⟩)
    have HB0 := hide (bel_alloc (Below.refl w.heap.size w) (.cells #[.int .i64 1, .int .i64 n, .int .i64 m, .string s, .slice la lps.length lc, .slice ka 0 kc, .int .i64 1, .int .i64 (n + 1), .bool false] 66))
    clear hn hk1 hz0 HZ HOK HZL HSUM HKC
    go_enter Tryz.func25, Tryz.ntmps25
    go_wp2_with fail
    go_loopw [14] (fun i wr => ∃ (j : Nat), j ≤ lps.length ∧ i = .int .i64 j ∧ Hid (TnAt w.heap.size wr w.heap.size (tnL 1 n m s (.slice la lps.length lc) (.slice ka 0 kc) ⟨1, n + 1, false⟩)) ∧ Hid (Below w.heap.size w wr)) (fun i _ => lps.length - (intOf i).toNat)
    case atStart => exact ⟨0, by omega, rfl, HT0.out, HB0.out⟩
    case round =>
      obtain ⟨j, hj, rfl, HT, HBL⟩ := hrel
      clear HT0 HB0
      by_cases hlt : j < lps.length
      · obtain ⟨b, off, rfl, hc⟩ := HLC.out (by omega)
        have c1 := keep_cell HBL.out (hc j hlt)
        simp only [ptrV] at c1
        have HTR := hide ((HLT.out.keep HBL.out).1.2 j hlt (by have := HLT.out.1.1; omega))
        have HFT := hide (HLT.out.2 (lus[j]'(by have := HLT.out.1.1; omega)) (by simp))
        have hlt' : (j : Int) < lps.length := by omega
        clear hc
        go_wp2_with (go_at_call 45; refine (l1Fits_any _ _ _ HTR.out).mono ?_; rintro e w2 ⟨rfl, hb2⟩; rw [HFT.out])
        go_roundw
        case rel => exact ⟨j + 1, by omega, by go_num, HT.out.keep hb2, HBL.out.trans (hb2.mono HBL.out.size)⟩
        case measure => simp [intOf]; omega
      · have hlt' : ¬ (j : Int) < lps.length := by omega
        obtain ⟨x6, x7, x8, xf⟩ := tn_cells HT.out
        dsimp only at x6 x7 x8
        have HT1 := hide (tn_set8 HT.out false)
        have HB1 := hide (bel_set HBL.out 8 (.bool false))
        have hsz1 := (World.ownsRow.lt HT.out w.heap.size rfl).2
        clear HLC HLT
        go_wp2_with fail
        go_loopw [15] (fun i wr2 => i = .int .i64 0 ∧ Hid (TnAt w.heap.size wr2 w.heap.size (tnL 1 n m s (.slice la lps.length lc) (.slice ka 0 kc) ⟨1, n + 1, false⟩)) ∧ Hid (Below w.heap.size w wr2)) (fun _ _ => 0)
        case atStart => exact ⟨rfl, HT1.out, HB1.out⟩
        case round =>
          obtain ⟨rfl, HT2, HB2⟩ := hrel
          clear HT1 HB1 HT HBL x6 x7 x8 xf hsz1
          obtain ⟨x6, x7, x8, xf⟩ := tn_cells HT2.out
          dsimp only at x6 x7 x8
          go_wp2_with fail
          go_ret
          exact ⟨rfl, by rw [HX.out]; exact HT2.out, HB2.out⟩
  · have e1 : (k == 1) = false := beq_eq_false_iff_ne.2 hk1'
    have HT0 := hide (tn_new w k n m s (.slice la lps.length lc) (.slice ka ps.length kc) ⟨1, 0, false⟩)
    have HB0 := hide (bel_alloc (Below.refl w.heap.size w) (.cells #[.int .i64 k, .int .i64 n, .int .i64 m, .string s, .slice la lps.length lc, .slice ka ps.length kc, .int .i64 1, .int .i64 0, .bool false] 66))
    have HLO := hide (loP_bounds k n zs HOK.out hn)
    have HL0 : Hid (loP k n zs 0 = 0) := by show _ = _; simp [loP, hk1']
    have HH0 : Hid (hoP k zs 0 = (k == 9)) := by show _ = _; simp [hoP]
    clear hn hk1 hk1'
    go_enter Tryz.func25, Tryz.ntmps25
    go_wp2_with fail
    go_loopw [14] (fun i wr => ∃ (j : Nat), j ≤ lps.length ∧ i = .int .i64 j ∧ Hid (TnAt w.heap.size wr w.heap.size (tnL k n m s (.slice la lps.length lc) (.slice ka ps.length kc) ⟨1, 0, false⟩)) ∧ Hid (Below w.heap.size w wr)) (fun i _ => lps.length - (intOf i).toNat)
    case atStart => exact ⟨0, by omega, rfl, HT0.out, HB0.out⟩
    case round =>
      obtain ⟨j, hj, rfl, HT, HBL⟩ := hrel
      clear HT0 HB0
      by_cases hlt : j < lps.length
      · obtain ⟨b, off, rfl, hc⟩ := HLC.out (by omega)
        have c1 := keep_cell HBL.out (hc j hlt)
        simp only [ptrV] at c1
        have HTR := hide ((HLT.out.keep HBL.out).1.2 j hlt (by have := HLT.out.1.1; omega))
        have HFT := hide (HLT.out.2 (lus[j]'(by have := HLT.out.1.1; omega)) (by simp))
        have hlt' : (j : Int) < lps.length := by omega
        clear hc
        go_wp2_with (go_at_call 45; refine (l1Fits_any _ _ _ HTR.out).mono ?_; rintro e w2 ⟨rfl, hb2⟩; rw [HFT.out])
        go_roundw
        case rel => exact ⟨j + 1, by omega, by go_num, HT.out.keep hb2, HBL.out.trans (hb2.mono HBL.out.size)⟩
        case measure => simp [intOf]; omega
      · have hlt' : ¬ (j : Int) < lps.length := by omega
        obtain ⟨x6, x7, x8, xf⟩ := tn_cells HT.out
        dsimp only at x6 x7 x8
        have HT1 := hide (tn_set8 HT.out (k == 9))
        have HB1 := hide (bel_set HBL.out 8 (.bool (k == 9)))
        have hsz1 := (World.ownsRow.lt HT.out w.heap.size rfl).2
        clear HLC HLT
        go_wp2_with fail
        go_loopw [15] (fun i wr2 => ∃ (q : Nat), q ≤ ps.length ∧ i = .int .i64 q ∧ Hid (TnAt w.heap.size wr2 w.heap.size (tnL k n m s (.slice la lps.length lc) (.slice ka ps.length kc) ⟨1 + sumZ (zs.take q), loP k n zs q, hoP k zs q⟩)) ∧ Hid (Below w.heap.size w wr2)) (fun i _ => ps.length - (intOf i).toNat)
        case atStart => exact ⟨0, by omega, rfl, by show TnAt _ _ _ _; rw [HL0.out, HH0.out]; exact HT1.out, HB1.out⟩
        case round =>
          obtain ⟨q, hq, rfl, HT2, HB2⟩ := hrel
          clear HT1 HB1 HT HBL x6 x7 x8 xf hsz1 HL0 HH0
          obtain ⟨x6, x7, x8, xf⟩ := tn_cells HT2.out
          have hsz2 := (World.ownsRow.lt HT2.out w.heap.size rfl).2
          dsimp only at x6 x7 x8
          have hsl := sumZ_le zs (fun z hz => (HOK.out z hz).1) q
          have hsn := sumZ_nonneg (zs.take q) (fun z hz => (HOK.out z (List.mem_of_mem_take hz)).1)
          have HS2 := HSUM.out
          by_cases hlq : q < ps.length
          · have hzq : q < zs.length := by have := HZL.out; omega
            obtain ⟨b, off, rfl, hc⟩ := HKC.out (by omega)
            have hbne : ¬ b = w.heap.size := by have := lt_cell (hc q hlq); omega
            have hrow := keep_cell HB2.out (hc q hlq)
            simp only [ptrV] at hrow
            obtain ⟨y6, y7, y8, ylt⟩ := ((HZ.out q hlq hzq)).cells
            have y6 := keep_cell HB2.out y6
            have y7 := keep_cell HB2.out y7
            have y8 := keep_cell HB2.out y8
            have hzo := HOK.out zs[q] (by simp)
            obtain ⟨zo1, zo2, zo3⟩ := hzo
            have hsq := sumZ_snoc zs q hzq
            have hsl2 := sumZ_le zs (fun z hz => (HOK.out z hz).1) (q + 1)
            have HSQ : Hid (1 + sumZ (zs.take (q + 1)) = 1 + sumZ (zs.take q) + zs[q].sz) := by show _ = _; omega
            have HHQ := hide (hoP_succ k zs q hzq)
            obtain ⟨lo1, lo2⟩ := HLO.out q
            have HFR : Hid (freeAt k zs q = zs[q].lo - (if lastB k zs q then 1 else 0)) := by show _ = _; simp [freeAt, List.getD, hzq]
            have HLQ : Hid (loP k n zs (q + 1) = max (loP k n zs q) (freeAt k zs q)) := rfl
            have hlq' : (q : Int) < ps.length := by omega
            have hne : ¬ ps[q] = w.heap.size := by omega
            have hwl : IntKind.i64.wrap ((ps.length : Int) - 1) = (ps.length : Int) - 1 := by rw [IntKind.wrap_i64]; omega
            have hbnd : 1 + sumZ (zs.take q) + zs[q].sz ≤ 20000 := by omega
            obtain ⟨S, hS⟩ : ∃ S : Int, 1 + sumZ (zs.take q) = S := ⟨_, rfl⟩
            rw [hS] at x6 hbnd HSQ HT2
            have hS0 : 1 ≤ S := by omega
            clear hc hsl hsn HS2 hsq hsl2 hS
            generalize loP k n zs q = lo at *
            generalize hoP k zs q = ho at *
            generalize ps[q] = pq at *
            generalize zs[q] = zq at *
            have hwS : IntKind.i64.wrap (S + zq.sz) = S + zq.sz := by rw [IntKind.wrap_i64]; omega
            have HLB : Hid (lastB k zs q = (decide (q + 1 = ps.length) && bindsB k)) := by show _ = _; unfold lastB; rw [HZL.out]
            clear HZ HOK HSUM HLO
            by_cases hlast : q + 1 = ps.length
            · have ql : ((q : Int) == (ps.length : Int) - 1) = true := beq_iff_eq.2 (by omega)
              cases hbd : bindsB k
              · have HFF : Hid (freeAt k zs q = zq.lo) := by show _ = _; rw [HFR.out, HLB.out, hbd]; simp
                clear HFR hlast
                by_cases hgt : lo < zq.lo
                · have dg : decide (lo < zq.lo) = true := by simp; omega
                  have HNL : Hid (loP k n zs (q + 1) = zq.lo) := by show _ = _; rw [HLQ.out, HFF.out]; omega
                  cases ho
                  · have HNH : Hid (hoP k zs (q + 1) = zq.ho) := by show _ = _; rw [HHQ.out]; rfl
                    have HTN := hide (tn_set8 (tn_set7 (tn_set6 (TnAt.drew HT2.out) (S + zq.sz)) (zq.lo)) (zq.ho))
                    have HBN := hide (bel_set (bel_set (bel_set HB2.out.drew 6 (.int .i64 (S + zq.sz))) 7 (.int .i64 (zq.lo))) 8 (.bool (zq.ho)))
                    clear hgt
                    go_wp2_with fail
                    go_region
                    go_wp2_with (go_at_call 30; refine (l3Binds_any _ _).mono ?_; rintro e w' ⟨rfl, rfl⟩; rw [hbd])
                    go_roundw
                    case rel => exact ⟨q + 1, by omega, by go_num, by show TnAt _ _ _ _; rw [HSQ.out, HNL.out, HNH.out]; exact HTN.out, HBN.out⟩
                    case measure => simp [intOf]; omega
                  · have HNH : Hid (hoP k zs (q + 1) = true) := by show _ = _; rw [HHQ.out]; rfl
                    have HTN := hide (tn_set8 (tn_set7 (tn_set6 (TnAt.drew HT2.out) (S + zq.sz)) (zq.lo)) (true))
                    have HBN := hide (bel_set (bel_set (bel_set HB2.out.drew 6 (.int .i64 (S + zq.sz))) 7 (.int .i64 (zq.lo))) 8 (.bool (true)))
                    clear hgt
                    go_wp2_with fail
                    go_region
                    go_wp2_with (go_at_call 30; refine (l3Binds_any _ _).mono ?_; rintro e w' ⟨rfl, rfl⟩; rw [hbd])
                    go_roundw
                    case rel => exact ⟨q + 1, by omega, by go_num, by show TnAt _ _ _ _; rw [HSQ.out, HNL.out, HNH.out]; exact HTN.out, HBN.out⟩
                    case measure => simp [intOf]; omega
                · have dg : decide (lo < zq.lo) = false := by simp; omega
                  have HNL : Hid (loP k n zs (q + 1) = lo) := by show _ = _; rw [HLQ.out, HFF.out]; omega
                  cases ho
                  · have HNH : Hid (hoP k zs (q + 1) = zq.ho) := by show _ = _; rw [HHQ.out]; rfl
                    have HTN := hide (tn_set8 (tn_set6 (TnAt.drew HT2.out) (S + zq.sz)) (zq.ho))
                    have HBN := hide (bel_set (bel_set HB2.out.drew 6 (.int .i64 (S + zq.sz))) 8 (.bool (zq.ho)))
                    clear hgt
                    go_wp2_with fail
                    go_region
                    go_wp2_with (go_at_call 30; refine (l3Binds_any _ _).mono ?_; rintro e w' ⟨rfl, rfl⟩; rw [hbd])
                    go_roundw
                    case rel => exact ⟨q + 1, by omega, by go_num, by show TnAt _ _ _ _; rw [HSQ.out, HNL.out, HNH.out]; exact HTN.out, HBN.out⟩
                    case measure => simp [intOf]; omega
                  · have HNH : Hid (hoP k zs (q + 1) = true) := by show _ = _; rw [HHQ.out]; rfl
                    have HTN := hide (tn_set8 (tn_set6 (TnAt.drew HT2.out) (S + zq.sz)) (true))
                    have HBN := hide (bel_set (bel_set HB2.out.drew 6 (.int .i64 (S + zq.sz))) 8 (.bool (true)))
                    clear hgt
                    go_wp2_with fail
                    go_region
                    go_wp2_with (go_at_call 30; refine (l3Binds_any _ _).mono ?_; rintro e w' ⟨rfl, rfl⟩; rw [hbd])
                    go_roundw
                    case rel => exact ⟨q + 1, by omega, by go_num, by show TnAt _ _ _ _; rw [HSQ.out, HNL.out, HNH.out]; exact HTN.out, HBN.out⟩
                    case measure => simp [intOf]; omega
              · have HFF : Hid (freeAt k zs q = zq.lo - 1) := by show _ = _; rw [HFR.out, HLB.out, hbd]; simp [hlast]
                have hwm : IntKind.i64.wrap (zq.lo - 1) = zq.lo - 1 := by rw [IntKind.wrap_i64]; omega
                clear HFR hlast
                by_cases hgt : lo < zq.lo - 1
                · have dg : decide (lo < zq.lo - 1) = true := by simp; omega
                  have HNL : Hid (loP k n zs (q + 1) = zq.lo - 1) := by show _ = _; rw [HLQ.out, HFF.out]; omega
                  cases ho
                  · have HNH : Hid (hoP k zs (q + 1) = zq.ho) := by show _ = _; rw [HHQ.out]; rfl
                    have HTN := hide (tn_set8 (tn_set7 (tn_set6 (TnAt.drew HT2.out) (S + zq.sz)) (zq.lo - 1)) (zq.ho))
                    have HBN := hide (bel_set (bel_set (bel_set HB2.out.drew 6 (.int .i64 (S + zq.sz))) 7 (.int .i64 (zq.lo - 1))) 8 (.bool (zq.ho)))
                    clear hgt
                    go_wp2_with fail
                    go_region
                    go_wp2_with (go_at_call 30; refine (l3Binds_any _ _).mono ?_; rintro e w' ⟨rfl, rfl⟩; rw [hbd])
                    go_roundw
                    case rel => exact ⟨q + 1, by omega, by go_num, by show TnAt _ _ _ _; rw [HSQ.out, HNL.out, HNH.out]; exact HTN.out, HBN.out⟩
                    case measure => simp [intOf]; omega
                  · have HNH : Hid (hoP k zs (q + 1) = true) := by show _ = _; rw [HHQ.out]; rfl
                    have HTN := hide (tn_set8 (tn_set7 (tn_set6 (TnAt.drew HT2.out) (S + zq.sz)) (zq.lo - 1)) (true))
                    have HBN := hide (bel_set (bel_set (bel_set HB2.out.drew 6 (.int .i64 (S + zq.sz))) 7 (.int .i64 (zq.lo - 1))) 8 (.bool (true)))
                    clear hgt
                    go_wp2_with fail
                    go_region
                    go_wp2_with (go_at_call 30; refine (l3Binds_any _ _).mono ?_; rintro e w' ⟨rfl, rfl⟩; rw [hbd])
                    go_roundw
                    case rel => exact ⟨q + 1, by omega, by go_num, by show TnAt _ _ _ _; rw [HSQ.out, HNL.out, HNH.out]; exact HTN.out, HBN.out⟩
                    case measure => simp [intOf]; omega
                · have dg : decide (lo < zq.lo - 1) = false := by simp; omega
                  have HNL : Hid (loP k n zs (q + 1) = lo) := by show _ = _; rw [HLQ.out, HFF.out]; omega
                  cases ho
                  · have HNH : Hid (hoP k zs (q + 1) = zq.ho) := by show _ = _; rw [HHQ.out]; rfl
                    have HTN := hide (tn_set8 (tn_set6 (TnAt.drew HT2.out) (S + zq.sz)) (zq.ho))
                    have HBN := hide (bel_set (bel_set HB2.out.drew 6 (.int .i64 (S + zq.sz))) 8 (.bool (zq.ho)))
                    clear hgt
                    go_wp2_with fail
                    go_region
                    go_wp2_with (go_at_call 30; refine (l3Binds_any _ _).mono ?_; rintro e w' ⟨rfl, rfl⟩; rw [hbd])
                    go_roundw
                    case rel => exact ⟨q + 1, by omega, by go_num, by show TnAt _ _ _ _; rw [HSQ.out, HNL.out, HNH.out]; exact HTN.out, HBN.out⟩
                    case measure => simp [intOf]; omega
                  · have HNH : Hid (hoP k zs (q + 1) = true) := by show _ = _; rw [HHQ.out]; rfl
                    have HTN := hide (tn_set8 (tn_set6 (TnAt.drew HT2.out) (S + zq.sz)) (true))
                    have HBN := hide (bel_set (bel_set HB2.out.drew 6 (.int .i64 (S + zq.sz))) 8 (.bool (true)))
                    clear hgt
                    go_wp2_with fail
                    go_region
                    go_wp2_with (go_at_call 30; refine (l3Binds_any _ _).mono ?_; rintro e w' ⟨rfl, rfl⟩; rw [hbd])
                    go_roundw
                    case rel => exact ⟨q + 1, by omega, by go_num, by show TnAt _ _ _ _; rw [HSQ.out, HNL.out, HNH.out]; exact HTN.out, HBN.out⟩
                    case measure => simp [intOf]; omega
            · have ql : ((q : Int) == (ps.length : Int) - 1) = false := beq_eq_false_iff_ne.2 (by omega)
              have HFF : Hid (freeAt k zs q = zq.lo) := by show _ = _; rw [HFR.out, HLB.out]; simp [hlast]
              clear HFR hlast
              by_cases hgt : lo < zq.lo
              · have dg : decide (lo < zq.lo) = true := by simp; omega
                have HNL : Hid (loP k n zs (q + 1) = zq.lo) := by show _ = _; rw [HLQ.out, HFF.out]; omega
                cases ho
                · have HNH : Hid (hoP k zs (q + 1) = zq.ho) := by show _ = _; rw [HHQ.out]; rfl
                  have HTN := hide (tn_set8 (tn_set7 (tn_set6 (TnAt.drew HT2.out) (S + zq.sz)) (zq.lo)) (zq.ho))
                  have HBN := hide (bel_set (bel_set (bel_set HB2.out.drew 6 (.int .i64 (S + zq.sz))) 7 (.int .i64 (zq.lo))) 8 (.bool (zq.ho)))
                  clear hgt
                  go_wp2_with fail
                  go_region
                  go_wp2_with fail
                  go_roundw
                  case rel => exact ⟨q + 1, by omega, by go_num, by show TnAt _ _ _ _; rw [HSQ.out, HNL.out, HNH.out]; exact HTN.out, HBN.out⟩
                  case measure => simp [intOf]; omega
                · have HNH : Hid (hoP k zs (q + 1) = true) := by show _ = _; rw [HHQ.out]; rfl
                  have HTN := hide (tn_set8 (tn_set7 (tn_set6 (TnAt.drew HT2.out) (S + zq.sz)) (zq.lo)) (true))
                  have HBN := hide (bel_set (bel_set (bel_set HB2.out.drew 6 (.int .i64 (S + zq.sz))) 7 (.int .i64 (zq.lo))) 8 (.bool (true)))
                  clear hgt
                  go_wp2_with fail
                  go_region
                  go_wp2_with fail
                  go_roundw
                  case rel => exact ⟨q + 1, by omega, by go_num, by show TnAt _ _ _ _; rw [HSQ.out, HNL.out, HNH.out]; exact HTN.out, HBN.out⟩
                  case measure => simp [intOf]; omega
              · have dg : decide (lo < zq.lo) = false := by simp; omega
                have HNL : Hid (loP k n zs (q + 1) = lo) := by show _ = _; rw [HLQ.out, HFF.out]; omega
                cases ho
                · have HNH : Hid (hoP k zs (q + 1) = zq.ho) := by show _ = _; rw [HHQ.out]; rfl
                  have HTN := hide (tn_set8 (tn_set6 (TnAt.drew HT2.out) (S + zq.sz)) (zq.ho))
                  have HBN := hide (bel_set (bel_set HB2.out.drew 6 (.int .i64 (S + zq.sz))) 8 (.bool (zq.ho)))
                  clear hgt
                  go_wp2_with fail
                  go_region
                  go_wp2_with fail
                  go_roundw
                  case rel => exact ⟨q + 1, by omega, by go_num, by show TnAt _ _ _ _; rw [HSQ.out, HNL.out, HNH.out]; exact HTN.out, HBN.out⟩
                  case measure => simp [intOf]; omega
                · have HNH : Hid (hoP k zs (q + 1) = true) := by show _ = _; rw [HHQ.out]; rfl
                  have HTN := hide (tn_set8 (tn_set6 (TnAt.drew HT2.out) (S + zq.sz)) (true))
                  have HBN := hide (bel_set (bel_set HB2.out.drew 6 (.int .i64 (S + zq.sz))) 8 (.bool (true)))
                  clear hgt
                  go_wp2_with fail
                  go_region
                  go_wp2_with fail
                  go_roundw
                  case rel => exact ⟨q + 1, by omega, by go_num, by show TnAt _ _ _ _; rw [HSQ.out, HNL.out, HNH.out]; exact HTN.out, HBN.out⟩
                  case measure => simp [intOf]; omega
          · have hlq' : ¬ (q : Int) < ps.length := by omega
            have hqe : q = zs.length := by have := HZL.out; omega
            have HX : Hid (tnL k n m s (.slice la lps.length lc) (.slice ka ps.length kc) ⟨1 + sumZ (zs.take q), loP k n zs q, hoP k zs q⟩ = tnL k n m s (.slice la lps.length lc) (.slice ka ps.length kc) (zmk k n zs)) := by
              show _ = _
              rw [hqe, List.take_length]; rfl
            have dbig : decide (20000 < 1 + sumZ (zs.take q)) = false := by simp; omega
            clear hqe
            go_wp2_with fail
            go_ret
            exact ⟨rfl, by rw [← HX.out]; exact HT2.out, HB2.out⟩
end Go.Proofs.YtcagcfhnbphggaaGreatDoor
