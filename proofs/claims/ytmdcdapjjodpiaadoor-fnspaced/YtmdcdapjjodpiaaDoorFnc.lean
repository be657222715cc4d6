/- What the program's readers of a name, of a number and of a token answer. -/
import Derived.Test.YtmdcdapjjodpiaaDoorFnb
import Derived.Test.YtmdcdapjjodpiaaDoorFnm
import Derived.Deep.CutRange
namespace Go.Proofs.YtmdcdapjjodpiaaDoor
open Go.ChangeShapes Go.WideShapes Go.ChangeAt Go.RowKit

theorem bel_alloc {a w : World} (h : Below a.heap.size a w) (o : Obj) : Below a.heap.size a (w.alloc o) := h.alloc h.size o
theorem bel_trans {w w1 w2 : World} (h : Below w.heap.size w w1) (h2 : Below w1.heap.size w1 w2) : Below w.heap.size w w2 := h.trans (h2.mono h.size)
theorem bytes_keep {w w' : World} (hb : Below w.heap.size w w') {b o : Nat} {T : ByteArray} (h : Lib.Bytes w b o T) : Lib.Bytes w' b o T := fun i hi => keep_cell hb (h i hi)
def tkA (tk : Tk) : Value := .agg #[.int .i64 tk.k, .string tk.s, .int .i64 tk.n, .int .i64 tk.p]
/-- What a reader of one token answers: the token and where it ends, or nothing and a place. -/
def tokV (r : Option (Tk × Nat)) (i : Nat) : Value := match r with
  | some (tk, e) => .tuple #[tkA tk, .int .i64 (e : Nat)]
  | none => .tuple #[.agg #[.int .i64 0, .string ⟨#[]⟩, .int .i64 0, .int .i64 0], .int .i64 (i : Nat)]
theorem set4 {w : World} {B : Nat} {u0 u1 u2 u3 : Value} (h0 : w.cell? ⟨B, 0, none⟩ = some u0) (h1 : w.cell? ⟨B, 1, none⟩ = some u1) (h2 : w.cell? ⟨B, 2, none⟩ = some u2) (h3 : w.cell? ⟨B, 3, none⟩ = some u3) (v0 v1 v2 v3 : Value) :
    ((((w.setCell ⟨B, 0, none⟩ v0).setCell ⟨B, 1, none⟩ v1).setCell ⟨B, 2, none⟩ v2).setCell ⟨B, 3, none⟩ v3).cell? ⟨B, 0, none⟩ = some v0 ∧
    ((((w.setCell ⟨B, 0, none⟩ v0).setCell ⟨B, 1, none⟩ v1).setCell ⟨B, 2, none⟩ v2).setCell ⟨B, 3, none⟩ v3).cell? ⟨B, 1, none⟩ = some v1 ∧
    ((((w.setCell ⟨B, 0, none⟩ v0).setCell ⟨B, 1, none⟩ v1).setCell ⟨B, 2, none⟩ v2).setCell ⟨B, 3, none⟩ v3).cell? ⟨B, 2, none⟩ = some v2 ∧
    ((((w.setCell ⟨B, 0, none⟩ v0).setCell ⟨B, 1, none⟩ v1).setCell ⟨B, 2, none⟩ v2).setCell ⟨B, 3, none⟩ v3).cell? ⟨B, 3, none⟩ = some v3 := by
  refine ⟨?_, ?_, ?_, ?_⟩
  · rw [World.cell?_setCell_other _ _ _ _ (by simp), World.cell?_setCell_other _ _ _ _ (by simp), World.cell?_setCell_other _ _ _ _ (by simp), World.cell?_setCell_same _ _ _ h0]
  · rw [World.cell?_setCell_other _ _ _ _ (by simp), World.cell?_setCell_other _ _ _ _ (by simp), World.cell?_setCell_same _ _ _ (u := u1) (by rw [World.cell?_setCell_other _ _ _ _ (by simp)]; exact h1)]
  · rw [World.cell?_setCell_other _ _ _ _ (by simp), World.cell?_setCell_same _ _ _ (u := u2) (by rw [World.cell?_setCell_other _ _ _ _ (by simp), World.cell?_setCell_other _ _ _ _ (by simp)]; exact h2)]
  · rw [World.cell?_setCell_same _ _ _ (u := u3) (by rw [World.cell?_setCell_other _ _ _ _ (by simp), World.cell?_setCell_other _ _ _ _ (by simp), World.cell?_setCell_other _ _ _ _ (by simp)]; exact h3)]
/-- The cell that a result lies in, as it was made. -/
structure ResAt (w : World) (B : Nat) : Prop where
  c0 : w.cell? ⟨B, 0, none⟩ = some (.int .i64 0)
  c1 : w.cell? ⟨B, 1, none⟩ = some (.string ⟨#[]⟩)
  c2 : w.cell? ⟨B, 2, none⟩ = some (.int .i64 0)
  c3 : w.cell? ⟨B, 3, none⟩ = some (.int .i64 0)
  fz : ∀ j, w.frozen? ⟨B, j, none⟩ = false
theorem ResAt.new (w : World) : ResAt (w.alloc (.cells #[.int .i64 0, .string ⟨#[]⟩, .int .i64 0, .int .i64 0] 29)) w.heap.size :=
  ⟨by simp [go_sem], by simp [go_sem], by simp [go_sem], by simp [go_sem], fun j => by simp [go_sem]⟩
theorem ResAt.keep {w w' : World} {B : Nat} (h : ResAt w B) (hb : Below w.heap.size w w') : ResAt w' B :=
  ⟨keep_cell hb h.c0, keep_cell hb h.c1, keep_cell hb h.c2, keep_cell hb h.c3, fun j => (hb.frozen (p := ⟨B, j, none⟩) (lt_cell h.c0)).trans (h.fz j)⟩
theorem below_set4 {w0 w : World} (hb : Below w0.heap.size w0 w) {B : Nat} (hB : w0.heap.size ≤ B) (v0 v1 v2 v3 : Value) : Below w0.heap.size w0 ((((w.setCell ⟨B, 0, none⟩ v0).setCell ⟨B, 1, none⟩ v1).setCell ⟨B, 2, none⟩ v2).setCell ⟨B, 3, none⟩ v3) :=
  (((hb.setCell (p := ⟨_, _, _⟩) hB _).setCell (p := ⟨_, _, _⟩) hB _).setCell (p := ⟨_, _, _⟩) hB _).setCell (p := ⟨_, _, _⟩) hB _
def nameR (T : ByteArray) (i : Nat) : Option (Tk × Nat) := if nameB (T.extract i (stopAt (nameP T) T.size i)) then some (nameTk T i (stopAt (nameP T) T.size i), stopAt (nameP T) T.size i) else none
def numberR (T : ByteArray) (i : Nat) : Option (Tk × Nat) := if okNum (T.extract i (stopAt (numP T) T.size i)) then some (⟨2, noB, numU (T.extract i (stopAt (numP T) T.size i)).data.toList, i⟩, stopAt (numP T) T.size i) else none
def signR (T : ByteArray) (i : Nat) : Option (Tk × Nat) := signAt T i signsL
theorem tokAt_eq (T : ByteArray) (i : Nat) : tokAt T i = if letB (bN T i) then nameR T i else if digB (bN T i) then numberR T i else signR T i := rfl
theorem nameP_eq (T : ByteArray) (k : Nat) : nameP T k = (goesB (bN T k) || nextP T k) := rfl

set_option maxRecDepth 20000 in
set_option maxHeartbeats 4000000 in
theorem nameToken_any (w : World) (b o : Nat) (T : ByteArray) (hc : Lib.Bytes w b o T) (htab : Tabs w) (i cap : Nat) (hi : i < T.size) (hcap : T.size ≤ cap) (hT : T.size ≤ 20000) (hl : letB (bN T i) = true) :
    Calls Tryd.prog 31 #[.slice (some ⟨b, o, none⟩) T.size cap, .int .i64 (i : Int)] w fun e w' => e = .returned (tokV (nameR T i) i) ∧ Below w.heap.size w w' := by
  have hg := stop_gt (p := nameP T) (len := T.size) hi (by simp [nameP, goes_let hl])
  obtain ⟨S, hS⟩ : ∃ S, S = stopAt (nameP T) T.size i := ⟨_, rfl⟩
  rw [← hS] at hg
  have HN0 := hide (show nameR T i = if nameB (T.extract i S) then some (nameTk T i S, S) else none by rw [hS]; rfl)
  have HS0 := hide hS.symm
  obtain ⟨g1, g2⟩ := hg
  have HBW : Hid (Below w.heap.size w (w.alloc (.cells #[.int .i64 0, .string ⟨#[]⟩, .int .i64 0, .int .i64 0] 29))) := bel_alloc (Below.refl _ _) _
  have HC : Hid (Lib.Bytes (w.alloc (.cells #[.int .i64 0, .string ⟨#[]⟩, .int .i64 0, .int .i64 0] 29)) b o T) := bytes_keep HBW.out hc
  have HT := hide (htab.keep HBW.out)
  have HR := hide (ResAt.new w)
  clear hc hl hS htab
  go_enter Tryd.func31, Tryd.ntmps31
  go_wp2_with fail
  generalize hw1 : w.alloc (.cells #[.int .i64 0, .string ⟨#[]⟩, .int .i64 0, .int .i64 0] 29) = w1 at *
  clear hw1
  go_loop [6] (fun v => ∃ k : Nat, k ≤ T.size ∧ v = .int .i64 k ∧ Hid (stopAt (nameP T) T.size k = S)) (fun v => T.size - (intOf v).toNat)
  case atStart => exact ⟨i, by omega, rfl, HS0.out⟩
  case round =>
    obtain ⟨k, hk, rfl, HS⟩ := hrel
    by_cases hx : k < T.size ∧ nameP T k = true
    · obtain ⟨hlt, hp⟩ := hx
      have c0 := Bytes.at HC.out k hlt
      have hlt' : (k : Int) < T.size := by omega
      have hsl := fun W => sl_l W b o T.size cap k hlt hcap
      have hst := HS.out
      rw [stop_step hlt hp] at hst
      have HR2 := hide hst
      clear hst
      cases hgo : goesB (bN T k)
      · have hn : nextP T k = true := by rw [nameP_eq, hgo] at hp; simpa using hp
        have HN := hide (beginsNext_any w1 b o T HC.out k (cap - k) hlt)
        rw [hn] at HN
        clear hp hn
        generalize bN T k = x0 at *
        go_wp2_with (first
          | (go_at_call 43; refine (goesOnName_any _ _).mono ?_; rintro e w' ⟨rfl, rfl⟩; rw [hgo])
          | (go_at_call 44; refine HN.out.mono ?_; rintro e w' ⟨rfl, rfl⟩)
          | fail)
        go_round
        case rel => exact ⟨k + 1, by omega, by go_num, HR2⟩
        case measure => simp [intOf]; omega
      · clear hp
        generalize bN T k = x0 at *
        go_wp2_with (first
          | (go_at_call 43; refine (goesOnName_any _ _).mono ?_; rintro e w' ⟨rfl, rfl⟩; rw [hgo])
          | fail)
        go_round
        case rel => exact ⟨k + 1, by omega, by go_num, HR2⟩
        case measure => simp [intOf]; omega
    · have hkS : k = S := by
        have hst := HS.out
        by_cases hlt : k < T.size
        · rw [stop_not (by simpa [hlt] using hx)] at hst; exact hst
        · rw [stop_end (by omega)] at hst; exact hst
      subst hkS
      have hsl := fun W => sl_lh W b o T.size cap i k g1 (by omega)
      have hcv := conv_win w1 b o T HC.out i (k - i) (cap - i) (by omega)
      rw [show i + (k - i) = k by omega] at hcv
      have hs20 : (T.extract i k).size ≤ maxLen := by rw [ext_size _ _ _ (by omega) g2]; unfold maxLen; omega
      have HG := hide g1
      obtain ⟨s, hs⟩ : ∃ s, s = T.extract i k := ⟨_, rfl⟩
      rw [← hs] at hcv hs20
      have HZ : ∀ q r : Bool, nameB s = q → isIn wordsL s = r → Hid (tokV (nameR T i) i = if q then .tuple #[.agg #[.int .i64 (if r then 4 else 1), .string s, .int .i64 0, .int .i64 i], .int .i64 k] else .tuple #[.agg #[.int .i64 0, .string ⟨#[]⟩, .int .i64 0, .int .i64 0], .int .i64 i]) := by
        intro q r h1 h2
        show _ = _
        rw [HN0.out]
        unfold nameTk
        rw [← hs, h1, h2]
        cases q
        · rfl
        · cases r <;> rfl
      clear hs g1
      cases hnb : nameB s
      · have HE := HZ false (isIn wordsL s) hnb rfl
        clear HZ
        by_cases hlt : k < T.size
        · have hp : nameP T k = false := by simpa [hlt] using hx
          have hgn := hp
          rw [nameP_eq, Bool.or_eq_false_iff] at hgn
          obtain ⟨hgo, hn⟩ := hgn
          have HN := hide (beginsNext_any w1 b o T HC.out k (cap - k) hlt)
          rw [hn] at HN
          clear hn
          have hsl2 := fun W => sl_l W b o T.size cap k hlt hcap
          have c0 := Bytes.at HC.out k hlt
          have hlt' : (k : Int) < T.size := by omega
          clear hx hp
          generalize bN T k = x0 at *
          go_wp2_with (first
            | (go_at_call 43; refine (goesOnName_any _ _).mono ?_; rintro e w' ⟨rfl, rfl⟩; rw [hgo])
            | (go_at_call 44; refine HN.out.mono ?_; rintro e w' ⟨rfl, rfl⟩)
            | (go_at_call 45; refine (implName_any s _ hs20).mono ?_; rintro e w2 ⟨rfl, hb2⟩; rw [hnb]
               have HRR := HR.out.keep hb2
               have HB2 := hide (bel_trans HBW.out hb2)
               have HT2 := hide (HT.out.keep hb2)
               obtain ⟨r0, r1, r2, r3, rf⟩ := HRR
               have f0 := rf 0
               have f1 := rf 1
               have f2 := rf 2
               have f3 := rf 3
               clear rf hb2)
            | fail)
          obtain ⟨t0, t1, t2, t3⟩ := set4 r0 r1 r2 r3 (.int .i64 0) (.string ⟨#[]⟩) (.int .i64 0) (.int .i64 0)
          refine bodyPost_ret (v := .tuple #[.agg #[.int .i64 0, .string ⟨#[]⟩, .int .i64 0, .int .i64 0], .int .i64 i]) (by simp [results, Tryd.results31, go_sem, t0, t1, t2, t3]) rfl ⟨by rw [HE.out]; rfl, below_set4 HB2.out (Nat.le_refl _) _ _ _ _⟩
        · have hlt' : decide ((k : Int) < T.size) = false := by simp; omega
          clear hx
          go_wp2_with (first
            | (go_at_call 45; refine (implName_any s _ hs20).mono ?_; rintro e w2 ⟨rfl, hb2⟩; rw [hnb]
               have HRR := HR.out.keep hb2
               have HB2 := hide (bel_trans HBW.out hb2)
               have HT2 := hide (HT.out.keep hb2)
               obtain ⟨r0, r1, r2, r3, rf⟩ := HRR
               have f0 := rf 0
               have f1 := rf 1
               have f2 := rf 2
               have f3 := rf 3
               clear rf hb2)
            | fail)
          obtain ⟨t0, t1, t2, t3⟩ := set4 r0 r1 r2 r3 (.int .i64 0) (.string ⟨#[]⟩) (.int .i64 0) (.int .i64 0)
          refine bodyPost_ret (v := .tuple #[.agg #[.int .i64 0, .string ⟨#[]⟩, .int .i64 0, .int .i64 0], .int .i64 i]) (by simp [results, Tryd.results31, go_sem, t0, t1, t2, t3]) rfl ⟨by rw [HE.out]; rfl, below_set4 HB2.out (Nat.le_refl _) _ _ _ _⟩
      · cases hiw : isIn wordsL s
        · have HE := HZ true false hnb hiw
          clear HZ
          by_cases hlt : k < T.size
          · have hp : nameP T k = false := by simpa [hlt] using hx
            have hgn := hp
            rw [nameP_eq, Bool.or_eq_false_iff] at hgn
            obtain ⟨hgo, hn⟩ := hgn
            have HN := hide (beginsNext_any w1 b o T HC.out k (cap - k) hlt)
            rw [hn] at HN
            clear hn
            have hsl2 := fun W => sl_l W b o T.size cap k hlt hcap
            have c0 := Bytes.at HC.out k hlt
            have hlt' : (k : Int) < T.size := by omega
            clear hx hp
            generalize bN T k = x0 at *
            go_wp2_with (first
              | (go_at_call 43; refine (goesOnName_any _ _).mono ?_; rintro e w' ⟨rfl, rfl⟩; rw [hgo])
              | (go_at_call 44; refine HN.out.mono ?_; rintro e w' ⟨rfl, rfl⟩)
              | (go_at_call 45; refine (implName_any s _ hs20).mono ?_; rintro e w2 ⟨rfl, hb2⟩; rw [hnb]
                 have HRR := HR.out.keep hb2
                 have HB2 := hide (bel_trans HBW.out hb2)
                 have HT2 := hide (HT.out.keep hb2)
                 obtain ⟨r0, r1, r2, r3, rf⟩ := HRR
                 have f0 := rf 0
                 have f1 := rf 1
                 have f2 := rf 2
                 have f3 := rf 3
                 clear rf hb2)
              | (go_at_call 46; refine (isSourceWord_any s _ HT2.out).mono ?_; rintro e w' ⟨rfl, hw⟩; have hw := hw.symm; subst hw; rw [hiw])
              | fail)
            obtain ⟨t0, t1, t2, t3⟩ := set4 r0 r1 r2 r3 (.int .i64 1) (.string s) (.int .i64 0) (.int .i64 i)
            refine bodyPost_ret (v := .tuple #[.agg #[.int .i64 1, .string s, .int .i64 0, .int .i64 i], .int .i64 k]) (by simp [results, Tryd.results31, go_sem, t0, t1, t2, t3]) rfl ⟨by rw [HE.out]; rfl, below_set4 HB2.out (Nat.le_refl _) _ _ _ _⟩
          · have hlt' : decide ((k : Int) < T.size) = false := by simp; omega
            clear hx
            go_wp2_with (first
              | (go_at_call 45; refine (implName_any s _ hs20).mono ?_; rintro e w2 ⟨rfl, hb2⟩; rw [hnb]
                 have HRR := HR.out.keep hb2
                 have HB2 := hide (bel_trans HBW.out hb2)
                 have HT2 := hide (HT.out.keep hb2)
                 obtain ⟨r0, r1, r2, r3, rf⟩ := HRR
                 have f0 := rf 0
                 have f1 := rf 1
                 have f2 := rf 2
                 have f3 := rf 3
                 clear rf hb2)
              | (go_at_call 46; refine (isSourceWord_any s _ HT2.out).mono ?_; rintro e w' ⟨rfl, hw⟩; have hw := hw.symm; subst hw; rw [hiw])
              | fail)
            obtain ⟨t0, t1, t2, t3⟩ := set4 r0 r1 r2 r3 (.int .i64 1) (.string s) (.int .i64 0) (.int .i64 i)
            refine bodyPost_ret (v := .tuple #[.agg #[.int .i64 1, .string s, .int .i64 0, .int .i64 i], .int .i64 k]) (by simp [results, Tryd.results31, go_sem, t0, t1, t2, t3]) rfl ⟨by rw [HE.out]; rfl, below_set4 HB2.out (Nat.le_refl _) _ _ _ _⟩
        · have HE := HZ true true hnb hiw
          clear HZ
          by_cases hlt : k < T.size
          · have hp : nameP T k = false := by simpa [hlt] using hx
            have hgn := hp
            rw [nameP_eq, Bool.or_eq_false_iff] at hgn
            obtain ⟨hgo, hn⟩ := hgn
            have HN := hide (beginsNext_any w1 b o T HC.out k (cap - k) hlt)
            rw [hn] at HN
            clear hn
            have hsl2 := fun W => sl_l W b o T.size cap k hlt hcap
            have c0 := Bytes.at HC.out k hlt
            have hlt' : (k : Int) < T.size := by omega
            clear hx hp
            generalize bN T k = x0 at *
            go_wp2_with (first
              | (go_at_call 43; refine (goesOnName_any _ _).mono ?_; rintro e w' ⟨rfl, rfl⟩; rw [hgo])
              | (go_at_call 44; refine HN.out.mono ?_; rintro e w' ⟨rfl, rfl⟩)
              | (go_at_call 45; refine (implName_any s _ hs20).mono ?_; rintro e w2 ⟨rfl, hb2⟩; rw [hnb]
                 have HRR := HR.out.keep hb2
                 have HB2 := hide (bel_trans HBW.out hb2)
                 have HT2 := hide (HT.out.keep hb2)
                 obtain ⟨r0, r1, r2, r3, rf⟩ := HRR
                 have f0 := rf 0
                 have f1 := rf 1
                 have f2 := rf 2
                 have f3 := rf 3
                 clear rf hb2)
              | (go_at_call 46; refine (isSourceWord_any s _ HT2.out).mono ?_; rintro e w' ⟨rfl, hw⟩; have hw := hw.symm; subst hw; rw [hiw])
              | fail)
            obtain ⟨t0, t1, t2, t3⟩ := set4 r0 r1 r2 r3 (.int .i64 4) (.string s) (.int .i64 0) (.int .i64 i)
            refine bodyPost_ret (v := .tuple #[.agg #[.int .i64 4, .string s, .int .i64 0, .int .i64 i], .int .i64 k]) (by simp [results, Tryd.results31, go_sem, t0, t1, t2, t3]) rfl ⟨by rw [HE.out]; rfl, below_set4 HB2.out (Nat.le_refl _) _ _ _ _⟩
          · have hlt' : decide ((k : Int) < T.size) = false := by simp; omega
            clear hx
            go_wp2_with (first
              | (go_at_call 45; refine (implName_any s _ hs20).mono ?_; rintro e w2 ⟨rfl, hb2⟩; rw [hnb]
                 have HRR := HR.out.keep hb2
                 have HB2 := hide (bel_trans HBW.out hb2)
                 have HT2 := hide (HT.out.keep hb2)
                 obtain ⟨r0, r1, r2, r3, rf⟩ := HRR
                 have f0 := rf 0
                 have f1 := rf 1
                 have f2 := rf 2
                 have f3 := rf 3
                 clear rf hb2)
              | (go_at_call 46; refine (isSourceWord_any s _ HT2.out).mono ?_; rintro e w' ⟨rfl, hw⟩; have hw := hw.symm; subst hw; rw [hiw])
              | fail)
            obtain ⟨t0, t1, t2, t3⟩ := set4 r0 r1 r2 r3 (.int .i64 4) (.string s) (.int .i64 0) (.int .i64 i)
            refine bodyPost_ret (v := .tuple #[.agg #[.int .i64 4, .string s, .int .i64 0, .int .i64 i], .int .i64 k]) (by simp [results, Tryd.results31, go_sem, t0, t1, t2, t3]) rfl ⟨by rw [HE.out]; rfl, below_set4 HB2.out (Nat.le_refl _) _ _ _ _⟩

theorem numR_no {s : ByteArray} (h : okNum s = false) : numR s = .tuple #[.int .i64 0, .bool false] := by unfold numR; rw [h]; rfl
theorem numR_yes {s : ByteArray} (h : okNum s = true) : numR s = .tuple #[.int .i64 (numU s.data.toList : Nat), .bool true] := by unfold numR; rw [h]; rfl
set_option maxRecDepth 20000 in
set_option maxHeartbeats 4000000 in
theorem numberToken_any (w : World) (b o : Nat) (T : ByteArray) (hc : Lib.Bytes w b o T) (i cap : Nat) (hi : i < T.size) (hcap : T.size ≤ cap) (hT : T.size ≤ 20000) (hl : digB (bN T i) = true) :
    Calls Tryd.prog 33 #[.slice (some ⟨b, o, none⟩) T.size cap, .int .i64 (i : Int)] w fun e w' => e = .returned (tokV (numberR T i) i) ∧ Below w.heap.size w w' := by
  have hg := stop_gt (p := numP T) (len := T.size) hi (by simp [numP, goes_dig hl])
  obtain ⟨S, hS⟩ : ∃ S, S = stopAt (numP T) T.size i := ⟨_, rfl⟩
  rw [← hS] at hg
  have HN0 := hide (show numberR T i = if okNum (T.extract i S) then some (⟨2, noB, numU (T.extract i S).data.toList, i⟩, S) else none by rw [hS]; rfl)
  have HS0 := hide hS.symm
  obtain ⟨g1, g2⟩ := hg
  have HBW : Hid (Below w.heap.size w (w.alloc (.cells #[.int .i64 0, .string ⟨#[]⟩, .int .i64 0, .int .i64 0] 29))) := bel_alloc (Below.refl _ _) _
  have HC : Hid (Lib.Bytes (w.alloc (.cells #[.int .i64 0, .string ⟨#[]⟩, .int .i64 0, .int .i64 0] 29)) b o T) := bytes_keep HBW.out hc
  have HR := hide (ResAt.new w)
  clear hc hl hS
  go_enter Tryd.func33, Tryd.ntmps33
  go_wp2_with fail
  generalize hw1 : w.alloc (.cells #[.int .i64 0, .string ⟨#[]⟩, .int .i64 0, .int .i64 0] 29) = w1 at *
  clear hw1
  obtain ⟨r0, r1, r2, r3, rf⟩ := HR.out
  have f0 := rf 0
  have f1 := rf 1
  have f2 := rf 2
  have f3 := rf 3
  clear rf
  go_loop [6] (fun v => ∃ k : Nat, k ≤ T.size ∧ v = .int .i64 k ∧ Hid (stopAt (numP T) T.size k = S)) (fun v => T.size - (intOf v).toNat)
  case atStart => exact ⟨i, by omega, rfl, HS0.out⟩
  case round =>
    obtain ⟨k, hk, rfl, HS⟩ := hrel
    by_cases hx : k < T.size ∧ numP T k = true
    · obtain ⟨hlt, hp⟩ := hx
      have c0 := Bytes.at HC.out k hlt
      have hlt' : (k : Int) < T.size := by omega
      have hst := HS.out
      rw [stop_step hlt hp] at hst
      have HR2 := hide hst
      have hgo : goesB (bN T k) = true := hp
      clear hst hp
      generalize bN T k = x0 at *
      go_wp2_with (first
        | (go_at_call 43; refine (goesOnName_any _ _).mono ?_; rintro e w' ⟨rfl, rfl⟩; rw [hgo])
        | fail)
      go_round
      case rel => exact ⟨k + 1, by omega, by go_num, HR2⟩
      case measure => simp [intOf]; omega
    · have hkS : k = S := by
        have hst := HS.out
        by_cases hlt : k < T.size
        · rw [stop_not (by simpa [hlt] using hx)] at hst; exact hst
        · rw [stop_end (by omega)] at hst; exact hst
      subst hkS
      have hsl := fun W => sl_lh W b o T.size cap i k g1 (by omega)
      have hcv := conv_win w1 b o T HC.out i (k - i) (cap - i) (by omega)
      rw [show i + (k - i) = k by omega] at hcv
      have hs20 : (T.extract i k).size ≤ 100000 := by rw [ext_size _ _ _ (by omega) g2]; omega
      have HG := hide g1
      obtain ⟨s, hs⟩ : ∃ s, s = T.extract i k := ⟨_, rfl⟩
      rw [← hs] at hcv hs20
      have HZ : ∀ q : Bool, okNum s = q → Hid (tokV (numberR T i) i = if q then .tuple #[.agg #[.int .i64 2, .string ⟨#[]⟩, .int .i64 (numU s.data.toList : Nat), .int .i64 i], .int .i64 k] else .tuple #[.agg #[.int .i64 0, .string ⟨#[]⟩, .int .i64 0, .int .i64 0], .int .i64 i]) := by
        intro q h1
        show _ = _
        rw [HN0.out, ← hs, h1]
        cases q <;> rfl
      have HD := decimal_any s w1 hs20
      clear hs g1
      cases hok : okNum s
      · have HE := HZ false hok
        rw [numR_no hok] at HD
        have HD2 := hide HD
        clear HZ HD
        by_cases hlt : k < T.size
        · have hp : numP T k = false := by simpa [hlt] using hx
          have hgo : goesB (bN T k) = false := hp
          have c0 := Bytes.at HC.out k hlt
          have hlt' : (k : Int) < T.size := by omega
          clear hx hp
          generalize bN T k = x0 at *
          go_wp2_with (first
            | (go_at_call 43; refine (goesOnName_any _ _).mono ?_; rintro e w' ⟨rfl, rfl⟩; rw [hgo])
            | (go_at_call 47; refine HD2.out.mono ?_; rintro e w' ⟨rfl, hw⟩; have hw := hw.symm; subst hw)
            | fail)
          obtain ⟨t0, t1, t2, t3⟩ := set4 r0 r1 r2 r3 (.int .i64 0) (.string ⟨#[]⟩) (.int .i64 0) (.int .i64 0)
          refine bodyPost_ret (v := .tuple #[.agg #[.int .i64 0, .string ⟨#[]⟩, .int .i64 0, .int .i64 0], .int .i64 i]) (by simp [results, Tryd.results33, go_sem, t0, t1, t2, t3]) rfl ⟨by rw [HE.out]; rfl, below_set4 HBW.out (Nat.le_refl _) _ _ _ _⟩
        · have hlt' : decide ((k : Int) < T.size) = false := by simp; omega
          clear hx
          go_wp2_with (first
            | (go_at_call 47; refine HD2.out.mono ?_; rintro e w' ⟨rfl, hw⟩; have hw := hw.symm; subst hw)
            | fail)
          obtain ⟨t0, t1, t2, t3⟩ := set4 r0 r1 r2 r3 (.int .i64 0) (.string ⟨#[]⟩) (.int .i64 0) (.int .i64 0)
          refine bodyPost_ret (v := .tuple #[.agg #[.int .i64 0, .string ⟨#[]⟩, .int .i64 0, .int .i64 0], .int .i64 i]) (by simp [results, Tryd.results33, go_sem, t0, t1, t2, t3]) rfl ⟨by rw [HE.out]; rfl, below_set4 HBW.out (Nat.le_refl _) _ _ _ _⟩
      · have HE := HZ true hok
        rw [numR_yes hok] at HD
        have HD2 := hide HD
        clear HZ HD
        generalize numU s.data.toList = m at *
        by_cases hlt : k < T.size
        · have hp : numP T k = false := by simpa [hlt] using hx
          have hgo : goesB (bN T k) = false := hp
          have c0 := Bytes.at HC.out k hlt
          have hlt' : (k : Int) < T.size := by omega
          clear hx hp
          generalize bN T k = x0 at *
          go_wp2_with (first
            | (go_at_call 43; refine (goesOnName_any _ _).mono ?_; rintro e w' ⟨rfl, rfl⟩; rw [hgo])
            | (go_at_call 47; refine HD2.out.mono ?_; rintro e w' ⟨rfl, hw⟩; have hw := hw.symm; subst hw)
            | fail)
          obtain ⟨t0, t1, t2, t3⟩ := set4 r0 r1 r2 r3 (.int .i64 2) (.string ⟨#[]⟩) (.int .i64 (m : Nat)) (.int .i64 i)
          refine bodyPost_ret (v := .tuple #[.agg #[.int .i64 2, .string ⟨#[]⟩, .int .i64 (m : Nat), .int .i64 i], .int .i64 k]) (by simp [results, Tryd.results33, go_sem, t0, t1, t2, t3]) rfl ⟨by rw [HE.out]; rfl, below_set4 HBW.out (Nat.le_refl _) _ _ _ _⟩
        · have hlt' : decide ((k : Int) < T.size) = false := by simp; omega
          clear hx
          go_wp2_with (first
            | (go_at_call 47; refine HD2.out.mono ?_; rintro e w' ⟨rfl, hw⟩; have hw := hw.symm; subst hw)
            | fail)
          obtain ⟨t0, t1, t2, t3⟩ := set4 r0 r1 r2 r3 (.int .i64 2) (.string ⟨#[]⟩) (.int .i64 (m : Nat)) (.int .i64 i)
          refine bodyPost_ret (v := .tuple #[.agg #[.int .i64 2, .string ⟨#[]⟩, .int .i64 (m : Nat), .int .i64 i], .int .i64 k]) (by simp [results, Tryd.results33, go_sem, t0, t1, t2, t3]) rfl ⟨by rw [HE.out]; rfl, below_set4 HBW.out (Nat.le_refl _) _ _ _ _⟩
end Go.Proofs.YtmdcdapjjodpiaaDoor
