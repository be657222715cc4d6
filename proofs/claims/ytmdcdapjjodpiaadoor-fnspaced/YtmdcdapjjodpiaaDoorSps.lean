/- What the specification's reader of a token answers. -/
import Derived.Test.YtmdcdapjjodpiaaDoorSrc
import Derived.Shelf.SlSortCmp.QuietGrown
namespace Go.Proofs.YtmdcdapjjodpiaaDoor
open Go.ChangeShapes Go.WideShapes Go.ChangeAt Go.RowKit

def SpR (r : Option (Tk × Nat)) (K : Int) (S : ByteArray) (N P E : Int) : Prop := match r with
  | some (tk, e) => K = tk.k ∧ S = tk.s ∧ N = tk.n ∧ P = tk.p ∧ E = (e : Nat)
  | none => E = 0
def SpOut (r : Option (Tk × Nat)) (w : World) (e : Ending) (w' : World) : Prop :=
  (∃ K S N P E, e = .returned (.tuple #[.agg #[.int .i64 K, .string S, .int .i64 N, .int .i64 P], .int .i64 E]) ∧ SpR r K S N P E) ∧ Below w.heap.size w w'
theorem below_grow {w w1 : World} (h : Below w.heap.size w w1) (n : Nat) (os : Array Obj) : Below w.heap.size w (Sort.grow (w1.drewN n) os) :=
  h.trans ⟨rfl, rfl, rfl, by simp [Sort.grow], fun k hk => by
    have h2 := h.size
    show (w1.heap ++ os)[k]? = _
    rw [Array.getElem?_append_left (by omega)]⟩

theorem StrsAt.keep {w w' : World} (hb : Below w.heap.size w w') {v : Value} {ss : List ByteArray} (h : StrsAt w v ss) : StrsAt w' v ss := by
  obtain ⟨a, cap, hv, h1, h2, h3⟩ := h
  refine ⟨a, cap, hv, h1, h2, fun h0 => ?_⟩
  obtain ⟨b, off, ha, hc⟩ := h3 h0
  exact ⟨b, off, ha, fun j h => keep_cell hb (hc j h)⟩
/-- A token that lies in a block of its own. -/
structure TkAt (w : World) (B : Nat) (k : Int) (s : ByteArray) (n p : Int) : Prop where
  c0 : w.cell? ⟨B, 0, none⟩ = some (.int .i64 k)
  c1 : w.cell? ⟨B, 1, none⟩ = some (.string s)
  c2 : w.cell? ⟨B, 2, none⟩ = some (.int .i64 n)
  c3 : w.cell? ⟨B, 3, none⟩ = some (.int .i64 p)
  fz : ∀ j, w.frozen? ⟨B, j, none⟩ = false
theorem TkAt.new (w : World) (k : Int) (s : ByteArray) (n p : Int) : TkAt (w.alloc (.cells #[.int .i64 k, .string s, .int .i64 n, .int .i64 p] 29)) w.heap.size k s n p :=
  ⟨by simp [go_sem], by simp [go_sem], by simp [go_sem], by simp [go_sem], fun j => by simp [go_sem]⟩
theorem TkAt.keep {w w' : World} {B : Nat} {k : Int} {s : ByteArray} {n p : Int} (h : TkAt w B k s n p) (hb : Below w.heap.size w w') : TkAt w' B k s n p :=
  ⟨keep_cell hb h.c0, keep_cell hb h.c1, keep_cell hb h.c2, keep_cell hb h.c3, fun j => (hb.frozen (p := ⟨B, j, none⟩) (lt_cell h.c0)).trans (h.fz j)⟩
theorem TkAt.low {w w' : World} {B b : Nat} {k : Int} {s : ByteArray} {n p : Int} (h : TkAt w B k s n p) (hb : Below b w w') (hB : B < b) : TkAt w' B k s n p :=
  ⟨(hb.cell (p := ⟨B, 0, none⟩) hB).trans h.c0, (hb.cell (p := ⟨B, 1, none⟩) hB).trans h.c1, (hb.cell (p := ⟨B, 2, none⟩) hB).trans h.c2, (hb.cell (p := ⟨B, 3, none⟩) hB).trans h.c3, fun j => (hb.frozen (p := ⟨B, j, none⟩) hB).trans (h.fz j)⟩
theorem TkAt.setK {w : World} {B : Nat} {k : Int} {s : ByteArray} {n p : Int} (h : TkAt w B k s n p) (k2 : Int) : TkAt (w.setCell ⟨B, 0, none⟩ (.int .i64 k2)) B k2 s n p :=
  ⟨World.cell?_setCell_same _ _ _ h.c0, by rw [World.cell?_setCell_other _ _ _ _ (by simp)]; exact h.c1, by rw [World.cell?_setCell_other _ _ _ _ (by simp)]; exact h.c2, by rw [World.cell?_setCell_other _ _ _ _ (by simp)]; exact h.c3, fun j => by simp [go_sem, h.fz j]⟩
theorem ResAt.tk {w : World} {B : Nat} (h : ResAt w B) : TkAt w B 0 ⟨#[]⟩ 0 0 := ⟨h.c0, h.c1, h.c2, h.c3, h.fz⟩
set_option maxRecDepth 20000 in
set_option maxHeartbeats 8000000 in
theorem spName_any (T : ByteArray) (i : Nat) (w : World) (hi : i < T.size) (hT : T.size ≤ 20000) (hl : letB (bN T i) = true) :
    Calls Tryd.prog 13 #[.string T, .int .i64 (i : Int)] w fun e w' => SpOut (nameR T i) w e w' := by
  have hg := stop_gt (p := nameP T) (len := T.size) hi (by simp [nameP, goes_let hl])
  obtain ⟨S, hS⟩ : ∃ S, S = stopAt (nameP T) T.size i := ⟨_, rfl⟩
  rw [← hS] at hg
  have HN0 := hide (show nameR T i = if nameB (T.extract i S) then some (nameTk T i S, S) else none by rw [hS]; rfl)
  have HS0 := hide hS.symm
  obtain ⟨g1, g2⟩ := hg
  have HBW : Hid (Below w.heap.size w (w.alloc (.cells #[.int .i64 0, .string ⟨#[]⟩, .int .i64 0, .int .i64 0] 29))) := bel_alloc (Below.refl _ _) _
  have HR := hide (ResAt.new w)
  rw [bN_eq T i hi] at hl
  have hi' : (i : Int) < T.size := by omega
  clear hS
  go_enter Tryd.func13, Tryd.ntmps13
  generalize hw1 : w.alloc (.cells #[.int .i64 0, .string ⟨#[]⟩, .int .i64 0, .int .i64 0] 29) = w1 at *
  go_wp2_with (first
    | (go_at_call 20; refine (l1Letter_any _ _).mono ?_; rintro e w' ⟨rfl, hw⟩; have hw := hw.symm; subst hw; rw [hl])
    | fail)
  go_loop [6] (fun v => ∃ k : Nat, k ≤ T.size ∧ v = .int .i64 k ∧ Hid (stopAt (nameP T) T.size k = S)) (fun v => T.size - (intOf v).toNat)
  case atStart => exact ⟨i, by omega, rfl, HS0.out⟩
  case round =>
    obtain ⟨k, hk, rfl, HS⟩ := hrel
    obtain ⟨q, hq⟩ : ∃ q, q = (decide (k < T.size) && nameP T k) := ⟨_, rfl⟩
    have HQ := hide hq
    clear hq
    go_upto_region 3 with fail
    go_cut [46] from 17 to 48 (fun u wx => u = .bool q ∧ wx = w1)
    case first =>
      by_cases hlt : k < T.size
      · have hlt' : (k : Int) < T.size := by omega
        have e0 := bN_eq T k hlt
        have hqe := HQ.out
        rw [nameP_eq] at hqe
        unfold nextP at hqe
        rw [e0] at hqe
        cases hgo : goesB (T[k].toNat : Int)
        · rw [hgo] at hqe
          by_cases h46 : (T[k].toNat : Int) = 46
          · have h46b : ((T[k].toNat : Int) == 46) = true := by simp [h46]
            by_cases h1 : k + 1 < T.size
            · have e1 := bN_eq T (k + 1) h1
              have h1' : (k : Int) + 1 < T.size := by omega
              rw [e1] at hqe
              cases hl1 : letB (T[k + 1].toNat : Int)
              · have HQ2 : Hid (q = false) := by show _ = _; rw [hqe, hl1]; simp
                clear hqe e0 e1 h46
                go_wp2_with (first
              | (go_at_call 21; refine (l14In_any _ _).mono ?_; rintro e w' ⟨rfl, hw⟩; have hw := hw.symm; subst hw; rw [hgo])
              | (go_at_call 20; refine (l1Letter_any _ _).mono ?_; rintro e w' ⟨rfl, hw⟩; have hw := hw.symm; subst hw; rw [hl1])
              | fail)
                go_meet
                exact ⟨by rw [HQ2.out], rfl⟩
              · have HQ2 : Hid (q = true) := by show _ = _; rw [hqe, hl1]; simp [hlt, h1, h46]
                clear hqe e0 e1 h46
                go_wp2_with (first
              | (go_at_call 21; refine (l14In_any _ _).mono ?_; rintro e w' ⟨rfl, hw⟩; have hw := hw.symm; subst hw; rw [hgo])
              | (go_at_call 20; refine (l1Letter_any _ _).mono ?_; rintro e w' ⟨rfl, hw⟩; have hw := hw.symm; subst hw; rw [hl1])
              | fail)
                go_meet
                exact ⟨by rw [HQ2.out], rfl⟩
            · have h1' : ¬ (k : Int) + 1 < T.size := by omega
              have HQ2 : Hid (q = false) := by show _ = _; rw [hqe]; simp [h1]
              have hl1 : True := trivial
              clear hqe e0 h46
              go_wp2_with (first
              | (go_at_call 21; refine (l14In_any _ _).mono ?_; rintro e w' ⟨rfl, hw⟩; have hw := hw.symm; subst hw; rw [hgo])
              | (go_at_call 20; refine (l1Letter_any _ _).mono ?_; rintro e w' ⟨rfl, hw⟩; have hw := hw.symm; subst hw; rw [hl1])
              | fail)
              go_meet
              exact ⟨by rw [HQ2.out], rfl⟩
          · have h46b : ((T[k].toNat : Int) == 46) = false := by simp [h46]
            have HQ2 : Hid (q = false) := by show _ = _; rw [hqe]; simp [h46]
            clear hqe e0 h46
            go_wp2_with (first
              | (go_at_call 21; refine (l14In_any _ _).mono ?_; rintro e w' ⟨rfl, hw⟩; have hw := hw.symm; subst hw; rw [hgo])
              | (go_at_call 20; refine (l1Letter_any _ _).mono ?_; rintro e w' ⟨rfl, hw⟩; have hw := hw.symm; subst hw; rw [hl1])
              | fail)
            go_meet
            exact ⟨by rw [HQ2.out], rfl⟩
        · have HQ2 : Hid (q = true) := by show _ = _; rw [hqe, hgo]; simp [hlt]
          clear hqe e0
          go_wp2_with (first
              | (go_at_call 21; refine (l14In_any _ _).mono ?_; rintro e w' ⟨rfl, hw⟩; have hw := hw.symm; subst hw; rw [hgo])
              | (go_at_call 20; refine (l1Letter_any _ _).mono ?_; rintro e w' ⟨rfl, hw⟩; have hw := hw.symm; subst hw; rw [hl1])
              | fail)
          go_meet
          exact ⟨by rw [HQ2.out], rfl⟩
      · have hlt' : ¬ (k : Int) < T.size := by omega
        have HQ2 : Hid (q = false) := by show _ = _; rw [HQ.out]; simp [hlt]
        go_wp2_with fail
        go_meet
        exact ⟨by rw [HQ2.out], rfl⟩
    case rest =>
      obtain ⟨rfl, hwc⟩ := hcut
      have hwc := hwc.symm
      subst hwc
      cases q
      · have hkS : k = S := by
          have hst := HS.out
          have hqq := HQ.out
          by_cases hlt : k < T.size
          · rw [stop_not (by simpa [hlt] using hqq)] at hst; exact hst
          · rw [stop_end (by omega)] at hst; exact hst
        subst hkS
        have hs20 : (T.extract i k).size ≤ maxLen := by rw [ext_size _ _ _ (by omega) g2]; unfold maxLen; omega
        have hki : (i : Int) ≤ k := by omega
        have hkT : (k : Int) ≤ T.size := by omega
        obtain ⟨s, hs⟩ : ∃ s, s = T.extract i k := ⟨_, rfl⟩
        have HZ : ∀ q r : Bool, nameB s = q → isIn wordsL s = r → Hid (nameR T i = if q then some (⟨if r then 4 else 1, s, 0, i⟩, k) else none) := by
          intro q r h1 h2
          show _ = _
          rw [HN0.out]
          unfold nameTk
          rw [← hs, h1, h2]
        rw [← hs] at hs20
        have HSE := hide hs.symm
        clear hs
        go_upto_region 6 with fail
        rw [HSE.out]
        have HB1 : Hid (Below w1.heap.size w1 (w1.alloc (.cells #[.int .i64 1, .string s, .int .i64 0, .int .i64 i] 29))) := bel_alloc (Below.refl _ _) _
        have HTK := hide (TkAt.new w1 1 s 0 i)
        generalize hw2 : w1.alloc (.cells #[.int .i64 1, .string s, .int .i64 0, .int .i64 i] 29) = w2 at *
        have hk1 := HTK.out.c1
        have hlw := lt_cell hk1
        clear hw2
        go_cut [58] from 55 to 58 (fun u wx => u = .bool (isIn wordsL s) ∧ Hid (Below w2.heap.size w2 wx))
        case first =>
          go_region_with (first
            | (go_at_call 23; refine (l14Words_any _).mono ?_; rintro e w' ⟨rfl, hw⟩; have hw := hw.symm; subst hw)
            | (go_at_call 22; refine (l1In_any _ wordsL s _ (by first | exact StrsAt.words _ | exact (StrsAt.words _).keep (Below.refl _ _).drew)).mono ?_; rintro e w' ⟨rfl, hw⟩; have hw := hw.symm; subst hw)
            | fail)
          all_goals (go_wp2_with fail; go_meet; exact ⟨rfl, (bel_alloc (Below.refl _ _) _).drew⟩)
        case rest =>
          obtain ⟨rfl, HX⟩ := hcut
          have lw1 : w.heap.size < w1.heap.size := by rw [← hw1]; simp
          clear hw1 hk1
          have HB2x := hide (HB1.out.trans (HX.out.mono (Nat.le_of_lt hlw)))
          have HTX := hide (HTK.out.keep HX.out)
          have HRX := hide (HR.out.tk.low HB2x.out lw1)
          have HBX := hide (bel_trans HBW.out HB2x.out)
          have lwx := lt_cell HTX.out.c0
          cases hiw : isIn wordsL s
          · have t0 := HTX.out.c1
            cases hnb : nameB s
            · have HE := HZ false false hnb hiw
              clear HZ
              go_wp2_with (first
                | (go_at_call 24; refine (specName_any s _ hs20).mono ?_; rintro e w5 ⟨rfl, hb5⟩; rw [hnb]
                   have HB5 := hide (bel_trans HBX.out hb5)
                   have T5 := HTX.out.keep hb5
                   have R5 := HRX.out.keep hb5
                   obtain ⟨t0, t1, t2, t3, tf⟩ := T5
                   obtain ⟨r0, r1, r2, r3, rf⟩ := R5
                   have f0 := rf 0
                   have f1 := rf 1
                   have f2 := rf 2
                   have f3 := rf 3
                   clear rf tf hb5)
                | fail)
              obtain ⟨x0, x1, x2, x3⟩ := set4 r0 r1 r2 r3 (.int .i64 1) (.string s) (.int .i64 0) (.int .i64 i)
              refine bodyPost_ret (v := .tuple #[.agg #[.int .i64 1, .string s, .int .i64 0, .int .i64 i], .int .i64 0]) (by simp [results, Tryd.results13, go_sem, x0, x1, x2, x3]) rfl ⟨⟨_, _, _, _, _, rfl, by rw [HE.out]; rfl⟩, below_set4 HB5.out (Nat.le_refl _) _ _ _ _⟩
            · have HE := HZ true false hnb hiw
              clear HZ
              go_wp2_with (first
                | (go_at_call 24; refine (specName_any s _ hs20).mono ?_; rintro e w5 ⟨rfl, hb5⟩; rw [hnb]
                   have HB5 := hide (bel_trans HBX.out hb5)
                   have T5 := HTX.out.keep hb5
                   have R5 := HRX.out.keep hb5
                   obtain ⟨t0, t1, t2, t3, tf⟩ := T5
                   obtain ⟨r0, r1, r2, r3, rf⟩ := R5
                   have f0 := rf 0
                   have f1 := rf 1
                   have f2 := rf 2
                   have f3 := rf 3
                   clear rf tf hb5)
                | fail)
              obtain ⟨x0, x1, x2, x3⟩ := set4 r0 r1 r2 r3 (.int .i64 1) (.string s) (.int .i64 0) (.int .i64 i)
              refine bodyPost_ret (v := .tuple #[.agg #[.int .i64 1, .string s, .int .i64 0, .int .i64 i], .int .i64 k]) (by simp [results, Tryd.results13, go_sem, x0, x1, x2, x3]) rfl ⟨⟨_, _, _, _, _, rfl, by rw [HE.out]; exact ⟨rfl, rfl, rfl, rfl, rfl⟩⟩, below_set4 HB5.out (Nat.le_refl _) _ _ _ _⟩
          · have t0 := HTX.out.c1
            have t1 := HTX.out.c0
            have tf0 := HTX.out.fz 0
            have HT4 := hide (HTX.out.setK 4)
            have HB4 := hide (HBX.out.setCell (p := ⟨w1.heap.size, 0, none⟩) (Nat.le_of_lt lw1) (.int .i64 4))
            have HR4 := hide (HRX.out.low ((Below.refl w1.heap.size wc).setCell (p := ⟨w1.heap.size, 0, none⟩) (Nat.le_refl _) (.int .i64 4)) lw1)
            cases hnb : nameB s
            · have HE := HZ false true hnb hiw
              clear HZ
              go_wp2_with (first
                | (go_at_call 24; refine (specName_any s _ hs20).mono ?_; rintro e w5 ⟨rfl, hb5⟩; rw [hnb]
                   have HB5 := hide (bel_trans HB4.out hb5)
                   have T5 := HT4.out.keep hb5
                   have R5 := HR4.out.keep hb5
                   obtain ⟨t0, t1, t2, t3, tf⟩ := T5
                   obtain ⟨r0, r1, r2, r3, rf⟩ := R5
                   have f0 := rf 0
                   have f1 := rf 1
                   have f2 := rf 2
                   have f3 := rf 3
                   clear rf tf hb5)
                | fail)
              obtain ⟨x0, x1, x2, x3⟩ := set4 r0 r1 r2 r3 (.int .i64 4) (.string s) (.int .i64 0) (.int .i64 i)
              refine bodyPost_ret (v := .tuple #[.agg #[.int .i64 4, .string s, .int .i64 0, .int .i64 i], .int .i64 0]) (by simp [results, Tryd.results13, go_sem, x0, x1, x2, x3]) rfl ⟨⟨_, _, _, _, _, rfl, by rw [HE.out]; rfl⟩, below_set4 HB5.out (Nat.le_refl _) _ _ _ _⟩
            · have HE := HZ true true hnb hiw
              clear HZ
              go_wp2_with (first
                | (go_at_call 24; refine (specName_any s _ hs20).mono ?_; rintro e w5 ⟨rfl, hb5⟩; rw [hnb]
                   have HB5 := hide (bel_trans HB4.out hb5)
                   have T5 := HT4.out.keep hb5
                   have R5 := HR4.out.keep hb5
                   obtain ⟨t0, t1, t2, t3, tf⟩ := T5
                   obtain ⟨r0, r1, r2, r3, rf⟩ := R5
                   have f0 := rf 0
                   have f1 := rf 1
                   have f2 := rf 2
                   have f3 := rf 3
                   clear rf tf hb5)
                | fail)
              obtain ⟨x0, x1, x2, x3⟩ := set4 r0 r1 r2 r3 (.int .i64 4) (.string s) (.int .i64 0) (.int .i64 i)
              refine bodyPost_ret (v := .tuple #[.agg #[.int .i64 4, .string s, .int .i64 0, .int .i64 i], .int .i64 k]) (by simp [results, Tryd.results13, go_sem, x0, x1, x2, x3]) rfl ⟨⟨_, _, _, _, _, rfl, by rw [HE.out]; exact ⟨rfl, rfl, rfl, rfl, rfl⟩⟩, below_set4 HB5.out (Nat.le_refl _) _ _ _ _⟩
      · have hqq := HQ.out
        have hlt : k < T.size := by
          by_cases h : k < T.size
          · exact h
          · simp [h] at hqq
        have hp : nameP T k = true := by simpa [hlt] using hqq.symm
        have hst := HS.out
        rw [stop_step hlt hp] at hst
        have HR2 := hide hst
        clear hst hqq hp
        go_wp2_with fail
        go_round
        case rel => exact ⟨k + 1, by omega, by go_num, HR2⟩
        case measure => simp [intOf]; omega
end Go.Proofs.YtmdcdapjjodpiaaDoor
