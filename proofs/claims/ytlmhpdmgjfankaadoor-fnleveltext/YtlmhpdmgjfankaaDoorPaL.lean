/- What the closures of the program's reader answer: atEnd, take, span. -/
import Derived.Test.YtlmhpdmgjfankaaDoorPaY
import Derived.Deep.CutRange
import Derived.Test.YtlmhpdmgjfankaaDoorPutI
namespace Go.Proofs.YtlmhpdmgjfankaaDoor
open Go.ChangeShapes Go.WideShapes Go.ChangeAt Go.RowKit

def pV (b : Nat) : Value := .pointer (some ⟨b, 0, none⟩)
def rF1 (ba bt : Nat) : Value := .func (.func 48) #[] #[.pointer (some ⟨ba, 0, none⟩), .pointer (some ⟨bt, 0, none⟩)]
/-- A reader of a text, come to a place. -/
structure RdI (bt ba bf : Nat) (s : ByteArray) (p : Nat) (w : World) : Prop where
  t : w.heap[bt]? = some (.cells #[.string s] 9 (0, 0))
  a : w.heap[ba]? = some (.cells #[.int .i64 (p : Int)] 3 (0, 0))
  f : w.heap[bf]? = some (.cells #[rF1 ba bt] 42 (0, 0))
  le : p ≤ s.size
  n1 : bt ≠ ba
  n2 : bf ≠ ba
theorem RdI.keep {bt ba bf : Nat} {s : ByteArray} {p : Nat} {w w' : World} (h : RdI bt ba bf s p w) (hb : Below w.heap.size w w') : RdI bt ba bf s p w' :=
  ⟨(hb.block _ (Array.getElem?_eq_some_iff.1 h.t).1).trans h.t, (hb.block _ (Array.getElem?_eq_some_iff.1 h.a).1).trans h.a, (hb.block _ (Array.getElem?_eq_some_iff.1 h.f).1).trans h.f, h.le, h.n1, h.n2⟩
theorem RdI.move {bt ba bf : Nat} {s : ByteArray} {p q : Nat} {w : World} (h : RdI bt ba bf s p w) (hq : q ≤ s.size) : RdI bt ba bf s q (w.setCell ⟨ba, 0, none⟩ (.int .i64 (q : Int))) :=
  ⟨(Below.heap_setCell w ⟨ba, 0, none⟩ _ bt h.n1).trans h.t, heap_setCell_same w ba 0 _ 3 _ h.a, (Below.heap_setCell w ⟨ba, 0, none⟩ _ bf h.n2).trans h.f, hq, h.n1, h.n2⟩
theorem RdI.cells {bt ba bf : Nat} {s : ByteArray} {p : Nat} {w : World} (h : RdI bt ba bf s p w) : w.cell? ⟨bt, 0, none⟩ = some (.string s) ∧ w.cell? ⟨ba, 0, none⟩ = some (.int .i64 (p : Int)) ∧ w.cell? ⟨bf, 0, none⟩ = some (rF1 ba bt) ∧ w.frozen? ⟨ba, 0, none⟩ = false :=
  ⟨by rw [cell_of_row _ _ _ _ _ _ h.t]; rfl, by rw [cell_of_row _ _ _ _ _ _ h.a]; rfl, by rw [cell_of_row _ _ _ _ _ _ h.f]; rfl, by
    have hr : w.ownsRow 0 3 1 (.slice (some ⟨ba, 0, none⟩) 1 1) 1 [.int .i64 (p : Int)] := ⟨rfl, .inr ⟨ba, 1, _, rfl, Nat.zero_le _, h.a, Nat.le_refl _, by unfold maxLen; omega, rfl, rfl⟩⟩
    exact hr.frozenAt 0⟩

set_option maxHeartbeats 1000000 in
theorem atEnd_any (bt ba bf : Nat) (s : ByteArray) (p : Nat) (w : World) (h : RdI bt ba bf s p w) :
    Calls Tryd.prog 48 #[.pointer (some ⟨ba, 0, none⟩), .pointer (some ⟨bt, 0, none⟩)] w fun e w' => e = .returned (.bool (decide (p = s.size))) ∧ w' = w := by
  obtain ⟨c1, c2, c3, c4⟩ := h.cells
  have q : ((p : Int) == (s.size : Int)) = decide (p = s.size) := by rw [Bool.eq_iff_iff, beq_iff_eq, decide_eq_true_eq]; omega
  clear h
  go_enter Tryd.func48, Tryd.ntmps48
  go_wp2_with fail
  go_ret
  exact ⟨ret_bool (by first | exact q | simp), rfl⟩

set_option maxHeartbeats 2000000 in
theorem take_any (c : UInt8) (cn : Int) (hcn : (c.toNat : Int) = cn) (bt ba bf : Nat) (s : ByteArray) (p : Nat) (w : World) (h : RdI bt ba bf s p w) (hs : s.size ≤ 3000) :
    Calls Tryd.prog 49 #[.int .u8 cn, .pointer (some ⟨bf, 0, none⟩), .pointer (some ⟨bt, 0, none⟩), .pointer (some ⟨ba, 0, none⟩)] w fun e w' => ((∃ r, s.data.toList.drop p = c :: r ∧ e = .returned (.bool true) ∧ RdI bt ba bf s (p + 1) w') ∨ ((∀ r, s.data.toList.drop p ≠ c :: r) ∧ e = .returned (.bool false) ∧ RdI bt ba bf s p w')) ∧ w.grownBy w' (some ba) := by
  obtain ⟨c1, c2, c3, c4⟩ := h.cells
  unfold rF1 at c3
  have HH := hide h
  have HE := hide (atEnd_any bt ba bf s p w h)
  have hle := h.le
  clear h
  by_cases he : p = s.size
  · have d : decide (p = s.size) = true := by simp [he]
    rw [d] at HE
    have HD : Hid (∀ r, s.data.toList.drop p ≠ c :: r) := by
      show ∀ r, _
      intro r e
      have := congrArg List.length e
      simp at this
      omega
    clear he d
    go_enter Tryd.func49, Tryd.ntmps49
    go_wp2_with (first | (go_at_call 48; refine HE.out.mono ?_; rintro e w' ⟨rfl, hw⟩; have hw := hw.symm; subst hw) | fail)
    go_ret
    exact ⟨.inr ⟨HD.out, rfl, HH.out⟩, ⟨rfl, rfl, rfl, Nat.le_refl _, fun _ _ _ => rfl⟩⟩
  · have d : decide (p = s.size) = false := by simp [he]
    rw [d] at HE
    have hlt : p < s.size := by omega
    have hlt' : (p : Int) < s.size := by omega
    have hdr : s.data.toList.drop p = s[p] :: s.data.toList.drop (p + 1) := by
      rw [List.drop_eq_getElem_cons (by simpa using hlt), get_data s p hlt]
    have q := u8_eq s[p] c
    rw [hcn] at q
    by_cases hc : s[p] = c
    · have q1 : ((s[p].toNat : Int) != cn) = false := by rw [bne, q]; simp [hc]
      have HD : Hid (s.data.toList.drop p = c :: s.data.toList.drop (p + 1)) := by show _ = _; rw [hdr, hc]
      have HM := hide (HH.out.move (q := p + 1) (by omega))
      have HG := hide (grown_set w ⟨ba, 0, none⟩ (.int .i64 ((p + 1 : Nat) : Int)))
      rw [show ((p + 1 : Nat) : Int) = (p : Int) + 1 by omega] at HM HG
      clear he d hdr q hc
      go_enter Tryd.func49, Tryd.ntmps49
      go_wp2_with (first | (go_at_call 48; refine HE.out.mono ?_; rintro e w' ⟨rfl, hw⟩; have hw := hw.symm; subst hw) | fail)
      go_ret
      exact ⟨.inl ⟨_, HD.out, rfl, HM.out⟩, HG.out⟩
    · have q1 : ((s[p].toNat : Int) != cn) = true := by rw [bne, q]; simp [hc]
      have HD : Hid (∀ r, s.data.toList.drop p ≠ c :: r) := by
        show ∀ r, _
        intro r e
        rw [hdr] at e
        exact hc (List.cons.inj e).1
      clear he d hdr q hc
      go_enter Tryd.func49, Tryd.ntmps49
      go_wp2_with (first | (go_at_call 48; refine HE.out.mono ?_; rintro e w' ⟨rfl, hw⟩; have hw := hw.symm; subst hw) | fail)
      go_ret
      exact ⟨.inr ⟨HD.out, rfl, HH.out⟩, ⟨rfl, rfl, rfl, Nat.le_refl _, fun _ _ _ => rfl⟩⟩
end Go.Proofs.YtlmhpdmgjfankaaDoor

/- What the program's span answers: the bytes from the place on that fit. -/
namespace Go.Proofs.YtlmhpdmgjfankaaDoor
open Go.ChangeShapes Go.WideShapes Go.ChangeAt Go.RowKit

def placeOf (ba : Nat) (w : World) : Nat := match w.cell? ⟨ba, 0, none⟩ with | some (.int _ i) => i.toNat | _ => 0
theorem place_eq {ba : Nat} {w : World} {p : Nat} (h : w.cell? ⟨ba, 0, none⟩ = some (.int .i64 (p : Int))) : placeOf ba w = p := by unfold placeOf; rw [h]; simp
theorem ext_mid (s : ByteArray) (p q : Nat) : (s.extract p q).data.toList = (s.data.toList.drop p).take (q - p) := by
  simp [ByteArray.data_extract]
theorem tw_step {pr : UInt8 → Bool} {s : ByteArray} {q : Nat} (h : q < s.size) : (s.data.toList.drop q).takeWhile pr = (if pr s[q] then s[q] :: (s.data.toList.drop (q + 1)).takeWhile pr else []) ∧ (s.data.toList.drop q).dropWhile pr = (if pr s[q] then (s.data.toList.drop (q + 1)).dropWhile pr else s.data.toList.drop q) := by
  have hd : s.data.toList.drop q = s[q] :: s.data.toList.drop (q + 1) := by
    rw [List.drop_eq_getElem_cons (by simpa using h), get_data s q h]
  constructor
  · rw [hd, List.takeWhile_cons]
  · conv => lhs; rw [hd, List.dropWhile_cons]
    rw [← hd]
/-- What span answers. -/
def SpanOut (pr : UInt8 → Bool) (bt ba bf : Nat) (s : ByteArray) (p : Nat) (e : Ending) (w' : World) : Prop :=
  ∃ q, q ≤ s.size ∧ e = .returned (.string ⟨((s.data.toList.drop p).takeWhile pr).toArray⟩) ∧ (s.data.toList.drop p).dropWhile pr = s.data.toList.drop q ∧ RdI bt ba bf s q w'

set_option maxRecDepth 20000 in
set_option maxHeartbeats 4000000 in
theorem span_any (F : Nat) (pr : UInt8 → Bool) (HF : ∀ (c : UInt8) (w : World), Calls Tryd.prog F #[.int .u8 (c.toNat : Int)] w fun e w' => e = .returned (.bool (pr c)) ∧ w' = w) (eF : ∀ (args : Array Value) (W : World), (callFunc F args).run Tryd.prog W = .ok (.enter F args) W) (bt ba bf : Nat) (s : ByteArray) (p : Nat) (w : World) (h : RdI bt ba bf s p w) (hs : s.size ≤ 3000) :
    Calls Tryd.prog 50 #[.func (.func F) #[] #[], .pointer (some ⟨ba, 0, none⟩), .pointer (some ⟨bf, 0, none⟩), .pointer (some ⟨bt, 0, none⟩)] w fun e w' => SpanOut pr bt ba bf s p e w' ∧ w.grownBy w' (some ba) := by
  obtain ⟨c1, c2, c3, c4⟩ := h.cells
  have HH := hide h
  have HFF := hide HF
  have hple := h.le
  clear h HF
  go_enter Tryd.func50, Tryd.ntmps50
  go_upto_region 2 with fail
  clear c1 c2 c3 c4
  go_loopw [] (fun wr => ∃ q : Nat, p ≤ q ∧ Hid (RdI bt ba bf s q wr) ∧ Hid ((s.data.toList.drop p).takeWhile pr = (s.data.toList.drop p).take (q - p) ++ (s.data.toList.drop q).takeWhile pr ∧ (s.data.toList.drop p).dropWhile pr = (s.data.toList.drop q).dropWhile pr) ∧ Hid (w.grownBy wr (some ba))) (fun wr => s.size - placeOf ba wr)
  case atStart => exact ⟨p, Nat.le_refl _, HH, ⟨by simp, rfl⟩, ⟨rfl, rfl, rfl, Nat.le_refl _, fun _ _ _ => rfl⟩⟩
  case round =>
    obtain ⟨q, hpq, HR, HT, HG⟩ := hrel
    obtain ⟨c1, c2, c3, c4⟩ := HR.out.cells
    unfold rF1 at c3
    have HE := hide (atEnd_any bt ba bf s q wr HR.out)
    have hle := HR.out.le
    have hpl := place_eq c2
    by_cases he : q = s.size
    · have d : decide (q = s.size) = true := by simp [he]
      rw [d] at HE
      have HO : Hid (SpanOut pr bt ba bf s p (.returned (.string (s.extract p q))) wr) := by
        have ht := HT.out
        have hn : s.data.toList.drop q = [] := List.drop_eq_nil_of_le (by simp; omega)
        rw [hn] at ht
        simp only [List.takeWhile_nil, List.append_nil, List.dropWhile_nil] at ht
        refine ⟨q, hle, ?_, by rw [ht.2, hn], HR.out⟩
        rw [ht.1, ← ext_mid, mk_data]
      clear he d hpl
      go_wp2_with (first | (go_at_call 48; refine HE.out.mono ?_; rintro e w' ⟨rfl, hw⟩; have hw := hw.symm; subst hw) | fail)
      go_ret
      exact ⟨HO.out, HG.out⟩
    · have d : decide (q = s.size) = false := by simp [he]
      rw [d] at HE
      have hlt : q < s.size := by omega
      have hlt' : (q : Int) < s.size := by omega
      obtain ⟨t1, t2⟩ := tw_step (pr := pr) hlt
      have HFC := hide (HFF.out s[q] wr)
      cases hpr : pr s[q]
      · rw [hpr] at HFC t1 t2
        simp only [Bool.false_eq_true, if_false] at t1 t2
        have HO : Hid (SpanOut pr bt ba bf s p (.returned (.string (s.extract p q))) wr) := by
          have ht := HT.out
          rw [t1, t2, List.append_nil] at ht
          refine ⟨q, hle, ?_, ht.2, HR.out⟩
          rw [ht.1, ← ext_mid, mk_data]
        clear he d hpl t1 t2 hpr
        go_wp2_with (first | (go_at_call 48; refine HE.out.mono ?_; rintro e w' ⟨rfl, hw⟩; have hw := hw.symm; subst hw) | (refine HFC.out.mono ?_; rintro e w' ⟨rfl, hw⟩; have hw := hw.symm; subst hw) | fail)
        go_ret
        exact ⟨HO.out, HG.out⟩
      · rw [hpr] at HFC t1 t2
        simp only [if_true] at t1 t2
        have HT2 : Hid ((s.data.toList.drop p).takeWhile pr = (s.data.toList.drop p).take (q + 1 - p) ++ (s.data.toList.drop (q + 1)).takeWhile pr ∧ (s.data.toList.drop p).dropWhile pr = (s.data.toList.drop (q + 1)).dropWhile pr) := by
          have ht := HT.out
          rw [t1, t2] at ht
          refine ⟨?_, ht.2⟩
          rw [ht.1, show q + 1 - p = (q - p) + 1 by omega, List.take_succ_eq_append_getElem (by simp; omega)]
          rw [List.append_assoc]
          congr 1
          simp only [List.singleton_append, List.cons.injEq, and_true]
          rw [List.getElem_drop, ← get_data s q hlt]
          congr 1
          omega
        have HR2 := hide (HR.out.move (q := q + 1) (by omega))
        have HG2 := hide (HG.out.trans (grown_set wr ⟨ba, 0, none⟩ (.int .i64 ((q + 1 : Nat) : Int))))
        have hpl2 := place_eq HR2.out.cells.2.1
        rw [show ((q + 1 : Nat) : Int) = (q : Int) + 1 by omega] at HR2 HG2 hpl2
        have HPL := hide hpl
        have HPL2 := hide hpl2
        clear he d hpl t1 t2 hpr hpl2
        go_wp2_with (first | (go_at_call 48; refine HE.out.mono ?_; rintro e w' ⟨rfl, hw⟩; have hw := hw.symm; subst hw) | (refine HFC.out.mono ?_; rintro e w' ⟨rfl, hw⟩; have hw := hw.symm; subst hw) | fail)
        go_roundw
        case rel => exact ⟨q + 1, by omega, HR2, HT2, HG2⟩
        case measure => rw [HPL.out, HPL2.out]; omega
end Go.Proofs.YtlmhpdmgjfankaaDoor

/- Plain facts for the program's reader of levels' texts: fuel enough is as good as more; how great a tree it makes. What succAround answers at any number. -/
namespace Go.Proofs.YtlmhpdmgjfankaaDoor
open Go.ChangeShapes Go.WideShapes Go.ChangeAt Go.RowKit

theorem pB_sound {n : Nat} {s : Bs} {y : It} {r1 : Bs} (hb : pB (pR n) s = some (y, r1)) : ∃ e p, s = p ++ r1 ∧ G p e ∧ y = e.it := by
  have ih := pR_sound n
  unfold pB at hb
  split at hb
  · split at hb
    · rename_i hd
      simp only [Option.some.injEq, Prod.mk.injEq] at hb
      exact ⟨.num _, _, by rw [← hb.2, List.takeWhile_append_dropWhile], G.num _ hd, hb.1.symm⟩
    · cases hb
  · split at hb
    · rename_i hm
      cases hp : pPair (pR n) (s.dropWhile goesU) with
      | none => rw [hp] at hb; cases hb
      | some q =>
        obtain ⟨a, b, r2⟩ := q
        rw [hp] at hb
        simp only [Option.map_some, Option.some.injEq, Prod.mk.injEq] at hb
        obtain ⟨p, q, u, v, h1, h2, h3, h4, h5⟩ := pPair_sound ih hp
        refine ⟨.max u v, _, ?_, G.max p q u v h2 h3, by rw [← hb.1, h4, h5]; rfl⟩
        rw [← hb.2]
        conv => lhs; rw [← List.takeWhile_append_dropWhile (p := goesU) (l := s), hm, h1]
        simp
    · split at hb
      · rename_i hm
        cases hp : pPair (pR n) (s.dropWhile goesU) with
        | none => rw [hp] at hb; cases hb
        | some q =>
          obtain ⟨a, b, r2⟩ := q
          rw [hp] at hb
          simp only [Option.map_some, Option.some.injEq, Prod.mk.injEq] at hb
          obtain ⟨p, q, u, v, h1, h2, h3, h4, h5⟩ := pPair_sound ih hp
          refine ⟨.imax u v, _, ?_, G.imax p q u v h2 h3, by rw [← hb.1, h4, h5]; rfl⟩
          rw [← hb.2]
          conv => lhs; rw [← List.takeWhile_append_dropWhile (p := goesU) (l := s), hm, h1]
          simp
      · rename_i hm hi
        split at hb
        · rename_i hs
          simp only [Option.some.injEq, Prod.mk.injEq] at hb
          refine ⟨.name (s.takeWhile goesU), _, by rw [← hb.2, List.takeWhile_append_dropWhile], G.name _ ?_, hb.1.symm⟩
          unfold okName paramB
          rw [hs, tl_mk]
          simp [hm, hi]
        · cases hb
theorem it_cnt_le {p : Bs} {e : Lx} (h : G p e) : e.it.cnt ≤ 10000 * p.length := by
  rw [← full_it, it_cnt _ (full_ok h).1]; exact (full_cnt h).1
theorem pB_cnt {n : Nat} {s : Bs} {y : It} {r : Bs} (h : pB (pR n) s = some (y, r)) : y.cnt + 10000 * r.length ≤ 10000 * s.length ∧ r.length < s.length := by
  obtain ⟨e, p, h1, h2, h3⟩ := pB_sound h
  have := it_cnt_le h2
  have h4 := (full_cnt h2).2
  rw [h3, h1, List.length_append]
  omega
theorem pR_len {n : Nat} {s : Bs} {y : It} {r : Bs} (h : pR n s = some (y, r)) : r.length < s.length ∧ y.cnt ≤ 10000 * s.length := by
  obtain ⟨e, p, h1, h2, h3⟩ := pR_sound n s y r h
  have := it_cnt_le h2
  have h4 := (full_cnt h2).2
  rw [h3, h1, List.length_append]
  omega
theorem pPair_congr {n m : Nat} {s : Bs} (h : ∀ r : Bs, r.length < s.length → pR n r = pR m r) : pPair (pR n) s = pPair (pR m) s := by
  cases s with
  | nil => rfl
  | cons c r =>
    simp only [pPair]
    by_cases hc : c = 40
    · rw [if_pos hc, if_pos hc, h r (by simp)]
      cases hr : pR m r with
      | none => rfl
      | some q =>
        obtain ⟨a, r2⟩ := q
        cases r2 with
        | nil => rfl
        | cons c2 r2 =>
          have hl := (pR_len hr).1
          simp only [List.length_cons] at hl
          simp only []
          rw [h r2 (by simp; omega)]
    · rw [if_neg hc, if_neg hc]
theorem pB_congr {n m : Nat} {s : Bs} (h : ∀ r : Bs, r.length < s.length → pR n r = pR m r) : pB (pR n) s = pB (pR m) s := by
  have hl : (s.dropWhile goesU).length ≤ s.length := (List.dropWhile_sublist goesU).length_le
  unfold pB
  rw [pPair_congr (s := s.dropWhile goesU) (fun r hr => h r (by omega))]
theorem pR_fuel : ∀ (n m : Nat) (s : Bs), s.length < n → s.length < m → pR n s = pR m s := by
  intro n
  induction n with
  | zero => intro m s h; omega
  | succ n ih =>
    intro m s h h'
    obtain ⟨m, rfl⟩ : ∃ k, m = k + 1 := ⟨m - 1, by omega⟩
    simp only [pR]
    rw [pB_congr (m := m) (fun r hr => ih m r (by omega) (by omega))]
def pRF (s : Bs) : Option (It × Bs) := pR (s.length + 1) s
theorem pRF_eq (s : Bs) : pRF s = match pB pRF s with
    | none => none
    | some (x, r) => pPlus (r.length + 1) x r := by
  have hb : pB pRF s = pB (pR s.length) s := by
    have hp : ∀ q : Bs, q.length ≤ s.length → pPair pRF q = pPair (pR s.length) q := by
      intro q hq
      cases q with
      | nil => rfl
      | cons c r =>
        simp only [pPair, pRF]
        simp only [List.length_cons] at hq
        by_cases hc : c = 40
        · rw [if_pos hc, if_pos hc, pR_fuel (r.length + 1) s.length r (by omega) (by omega)]
          cases hr : pR s.length r with
          | none => rfl
          | some z =>
            obtain ⟨a, r2⟩ := z
            cases r2 with
            | nil => rfl
            | cons c2 r2 =>
              have hl := (pR_len hr).1
              simp only [List.length_cons] at hl
              simp only []
              rw [pR_fuel (r2.length + 1) s.length r2 (by omega) (by omega)]
        · rw [if_neg hc, if_neg hc]
    unfold pB
    rw [hp _ (List.dropWhile_sublist goesU).length_le]
  rw [hb]
  rfl
set_option maxHeartbeats 1000000 in
theorem succA0_any (n : Nat) (x : It) (w : World) (hc : n + x.cnt ≤ 1000000000) : Calls Tryd.prog 39 #[x.val, .int .i64 n] w fun e w' => e = .returned (sA0 n x).val ∧ Below w.heap.size w w' := by
  by_cases h0 : n = 0
  · subst h0
    have q0 : (((0 : Nat) : Int) == 0) = true := rfl
    obtain ⟨T, v, hv⟩ := x.val_iface
    have he : sA0 0 x = x := rfl
    rw [he, hv]
    clear he hv hc
    go_enter Tryd.func39, Tryd.ntmps39
    go_wp2_with fail
    go_ret
    exact ⟨rfl, Below.refl _ _⟩
  · have he : sA0 n x = sAroundN n x := by unfold sA0; rw [if_neg h0]
    rw [he]
    have hn : 1 ≤ n := by omega
    clear he h0
    have q0 : ((n : Int) == 0) = false := by rw [beq_eq_false_iff_ne]; omega
    cases x with
    | zero =>
      have a1 := Tryd.as152_144
      simp only [It.val, sAroundN]
      clear hc
      go_enter Tryd.func39, Tryd.ntmps39
      go_wp2_with fail
      go_ret
      exact ⟨rfl, bel_alloc (Below.refl _ _) _⟩
    | succ m y =>
      have a1 := Tryd.as144_144
      obtain ⟨T, v, hv⟩ := y.val_iface
      simp only [It.val, sAroundN, hv]
      simp only [It.cnt] at hc
      have hm : (m : Int) ≤ 1000000000 := by omega
      have hn' : (n : Int) ≤ 1000000000 := by omega
      have hwr : IntKind.i64.wrap ((m : Int) + n) = (m : Int) + n := by rw [IntKind.wrap_i64]; omega
      have HE : Hid (Ending.returned (.iface 80 (.agg #[.int .i64 ((m : Int) + n), .iface T v])) = .returned (.iface 80 (.agg #[.int .i64 ((m + n : Nat) : Int), .iface T v]))) := by show _ = _; simp
      clear hc hv
      go_enter Tryd.func39, Tryd.ntmps39
      go_wp2_with fail
      go_ret
      exact ⟨HE.out, bel_alloc (Below.refl _ _) _⟩
    | max a b =>
      have a1 := Tryd.as146_144
      obtain ⟨Ta, va, ha⟩ := a.val_iface
      obtain ⟨Tb, vb, hb⟩ := b.val_iface
      simp only [It.val, sAroundN, ha, hb]
      clear ha hb hc
      go_enter Tryd.func39, Tryd.ntmps39
      go_wp2_with fail
      go_ret
      exact ⟨rfl, bel_alloc (Below.refl _ _) _⟩
    | imax a b =>
      have a1 := Tryd.as147_144
      obtain ⟨Ta, va, ha⟩ := a.val_iface
      obtain ⟨Tb, vb, hb⟩ := b.val_iface
      simp only [It.val, sAroundN, ha, hb]
      clear ha hb hc
      go_enter Tryd.func39, Tryd.ntmps39
      go_wp2_with fail
      go_ret
      exact ⟨rfl, bel_alloc (Below.refl _ _) _⟩
    | param s =>
      have a1 := Tryd.as149_144
      simp only [It.val, sAroundN]
      clear hc
      go_enter Tryd.func39, Tryd.ntmps39
      go_wp2_with fail
      go_ret
      exact ⟨rfl, bel_alloc (Below.refl _ _) _⟩
end Go.Proofs.YtlmhpdmgjfankaaDoor

/- What the program's readLevelPair answers, where readLevel answers as the plain reader. -/
namespace Go.Proofs.YtlmhpdmgjfankaaDoor
open Go.ChangeShapes Go.WideShapes Go.ChangeAt Go.RowKit

def rF2 (bt ba bf : Nat) : Value := .func (.func 49) #[] #[.pointer (some ⟨bf, 0, none⟩), .pointer (some ⟨bt, 0, none⟩), .pointer (some ⟨ba, 0, none⟩)]
def rF3 (bt ba bf : Nat) : Value := .func (.func 50) #[] #[.pointer (some ⟨ba, 0, none⟩), .pointer (some ⟨bf, 0, none⟩), .pointer (some ⟨bt, 0, none⟩)]
def rV (bt ba bf : Nat) : Value := .agg #[rF1 ba bt, rF2 bt ba bf, rF3 bt ba bf]
/-- A value of an interface type. -/
def IfV (v : Value) : Prop := v = .nilIface ∨ ∃ T u, v = .iface T u
def ROut (bt ba bf : Nat) (s : ByteArray) (res : Option (It × Bs)) (e : Ending) (w' : World) : Prop :=
  match res with
  | none => ∃ v q, IfV v ∧ e = .returned (.tuple #[v, .bool false]) ∧ RdI bt ba bf s q w'
  | some (x, r) => ∃ q, e = .returned (.tuple #[x.val, .bool true]) ∧ RdI bt ba bf s q w' ∧ s.data.toList.drop q = r
def POut (bt ba bf : Nat) (s : ByteArray) (res : Option (It × It × Bs)) (e : Ending) (w' : World) : Prop :=
  match res with
  | none => ∃ va vb q, IfV va ∧ IfV vb ∧ e = .returned (.tuple #[va, vb, .bool false]) ∧ RdI bt ba bf s q w'
  | some (x, y, r) => ∃ q, e = .returned (.tuple #[x.val, y.val, .bool true]) ∧ RdI bt ba bf s q w' ∧ s.data.toList.drop q = r
def LevAt (bt ba bf : Nat) (s : ByteArray) (L : Nat) : Prop := ∀ (w : World) (p : Nat), (s.data.toList.drop p).length < L → RdI bt ba bf s p w → Calls Tryd.prog 25 #[rV bt ba bf] w fun e w' => ROut bt ba bf s (pRF (s.data.toList.drop p)) e w' ∧ w.grownBy w' (some ba)
theorem drop_next {s : ByteArray} {p : Nat} {c : UInt8} {r : Bs} (h : s.data.toList.drop p = c :: r) : s.data.toList.drop (p + 1) = r := by
  rw [← List.drop_drop, h]; rfl
theorem RdI.lt {bt ba bf : Nat} {s : ByteArray} {p : Nat} {w : World} (h : RdI bt ba bf s p w) : ba < w.heap.size := (Array.getElem?_eq_some_iff.1 h.a).1
/-- The three functions of a reader in a block. -/
def BoxI (bt ba bf b0 : Nat) (w : World) : Prop := w.cell? ⟨b0, 0, none⟩ = some (rF1 ba bt) ∧ w.cell? ⟨b0, 1, none⟩ = some (rF2 bt ba bf) ∧ w.cell? ⟨b0, 2, none⟩ = some (rF3 bt ba bf) ∧ b0 ≠ ba
theorem BoxI.go {bt ba bf b0 : Nat} {w w' : World} (h : BoxI bt ba bf b0 w) (hg : w.grownBy w' (some ba)) : BoxI bt ba bf b0 w' := by
  obtain ⟨h1, h2, h3, h4⟩ := h
  have hl := lt_cell h1
  exact ⟨(hg.cell_far ⟨b0, 0, none⟩ hl (by simp; exact h4)).trans h1, (hg.cell_far ⟨b0, 1, none⟩ hl (by simp; exact h4)).trans h2, (hg.cell_far ⟨b0, 2, none⟩ hl (by simp; exact h4)).trans h3, h4⟩
theorem BoxI.new {bt ba bf : Nat} {w : World} (h : ba < w.heap.size) : BoxI bt ba bf w.heap.size (w.alloc (.cells #[rF1 ba bt, rF2 bt ba bf, rF3 bt ba bf] 56)) :=
  ⟨by simp [go_sem], by simp [go_sem], by simp [go_sem], by omega⟩

set_option maxRecDepth 20000 in
set_option maxHeartbeats 8000000 in
theorem pair_any (bt ba bf : Nat) (s : ByteArray) (hs : s.size ≤ 3000) (L : Nat) (ih : LevAt bt ba bf s L) (w : World) (p : Nat) (hL : (s.data.toList.drop p).length ≤ L) (h : RdI bt ba bf s p w) :
    Calls Tryd.prog 67 #[rV bt ba bf] w fun e w' => POut bt ba bf s (pPair pRF (s.data.toList.drop p)) e w' ∧ w.grownBy w' (some ba) := by
  have HIH := hide ih
  obtain ⟨res, hres0⟩ : ∃ res, res = pPair pRF (s.data.toList.drop p) := ⟨_, rfl⟩
  rw [← hres0]
  have HRS := hide hres0
  clear hres0
  obtain ⟨W, hW⟩ : ∃ W, W = w.alloc (.cells #[rF1 ba bt, rF2 bt ba bf, rF3 bt ba bf] 56) := ⟨_, rfl⟩
  have HG0 := hide (show w.grownBy W (some ba) by rw [hW]; exact (grown_of (bel_alloc (Below.refl _ _) _)).but _)
  have HR0 := hide (show RdI bt ba bf s p W by rw [hW]; exact h.keep (bel_alloc (Below.refl _ _) _))
  have HX0 := hide (show BoxI bt ba bf w.heap.size W by rw [hW]; exact BoxI.new h.lt)
  obtain ⟨b0, hb0⟩ : ∃ b0, b0 = w.heap.size := ⟨_, rfl⟩
  rw [← hb0] at HX0
  have HT := hide (take_any 40 40 rfl bt ba bf s p W HR0.out hs)
  clear h ih
  unfold rV
  unfold rF1 rF2 rF3 at *
  go_enter Tryd.func67, Tryd.ntmps67
  go_upto_region 1 with fail
  rw [← hW]
  rw [← hb0]
  clear hW hb0
  obtain ⟨x0, x1, x2, hne⟩ := HX0.out
  unfold rF1 at x0
  unfold rF2 at x1
  unfold rF3 at x2
  go_wp2_with fail
  refine HT.out.mono ?_
  rintro e w1 ⟨hres, hg1⟩
  have HX1 := hide (HX0.out.go hg1)
  have HG1 := hide (HG0.out.trans hg1)
  clear x0 x1 x2 hg1 HT HR0 HG0 HX0
  rcases hres with ⟨r, hr, rfl, h1⟩ | ⟨hno, rfl, h1⟩
  · have hr1 := drop_next hr
    have HR2 : Hid (res = pPair pRF (40 :: r)) := by show _ = _; rw [HRS.out, hr]
    rw [hr] at hL
    simp only [List.length_cons] at hL
    have HL1 := hide (HIH.out w1 (p + 1) (by rw [hr1]; omega) h1)
    rw [hr1] at HL1
    unfold rV rF1 rF2 rF3 at HL1
    clear h1 hr hr1
    obtain ⟨x0, x1, x2, hne1⟩ := HX1.out
    unfold rF1 at x0
    unfold rF2 at x1
    unfold rF3 at x2
    go_wp2_with fail
    refine HL1.out.mono ?_
    rintro e w2 ⟨hout, hg2⟩
    have HX2 := hide (HX1.out.go hg2)
    have HG2 := hide (HG1.out.trans hg2)
    clear x0 x1 x2 hg2 HX1 HG1 HL1
    cases hp1 : pRF r with
    | none =>
      rw [hp1] at hout
      obtain ⟨v, q, hv, rfl, h2⟩ := hout
      have HP : Hid (res = none) := by show _ = _; rw [HR2.out]; simp only [pPair, if_true, hp1]
      have H2 := hide h2
      clear h2 hp1
      go_wp2_with fail
      refine bodyPost_ret (v := .tuple #[.nilIface, .nilIface, .bool false]) (by simp [results, Tryd.results67, go_sem]) rfl ⟨by rw [HP.out]; exact ⟨_, _, q, .inl rfl, .inl rfl, rfl, H2.out⟩, HG2.out⟩
    | some z =>
      obtain ⟨x, r1⟩ := z
      rw [hp1] at hout
      obtain ⟨q, rfl, h2, hq⟩ := hout
      have hlen1 := (pR_len hp1).1
      have HT2 := hide (take_any 44 44 rfl bt ba bf s q w2 h2 hs)
      obtain ⟨Tx, vx, hvx⟩ := x.val_iface
      have HVX := hide hvx
      rw [hvx]
      obtain ⟨x0, x1, x2, hne2⟩ := HX2.out
      unfold rF1 at x0
      unfold rF2 at x1
      unfold rF3 at x2
      clear h2
      go_wp2_with fail
      refine HT2.out.mono ?_
      rintro e w3 ⟨hres, hg3⟩
      rcases hres with ⟨r2, hr2, rfl, h3⟩ | ⟨hno, rfl, h3⟩
      · have HX3 := hide (HX2.out.go hg3)
        have HG3 := hide (HG2.out.trans hg3)
        have hr3 := drop_next hr2
        have hrr : r1 = 44 :: r2 := by rw [← hq, hr2]
        rw [hrr] at hlen1
        simp only [List.length_cons] at hlen1
        have HL2 := hide (HIH.out w3 (q + 1) (by rw [hr3]; omega) h3)
        rw [hr3] at HL2
        unfold rV rF1 rF2 rF3 at HL2
        have HR3 := hide hrr
        clear x0 x1 x2 hg3 HX2 HG2 h3 hr2 hr3 hq
        obtain ⟨x0, x1, x2, hne3⟩ := HX3.out
        unfold rF1 at x0
        unfold rF2 at x1
        unfold rF3 at x2
        go_wp2_with fail
        refine HL2.out.mono ?_
        rintro e w4 ⟨hout, hg4⟩
        have HX4 := hide (HX3.out.go hg4)
        have HG4 := hide (HG3.out.trans hg4)
        clear x0 x1 x2 hg4 HX3 HG3 HL2
        cases hp2 : pRF r2 with
        | none =>
          rw [hp2] at hout
          obtain ⟨v, q4, hv, rfl, h4⟩ := hout
          have HV := hide hv
          clear hv
          have HP : Hid (res = none) := by show _ = _; rw [HR2.out]; simp only [pPair, if_true, hp1, HR3.out, hp2]
          have H4 := hide h4
          clear h4 hp1 hp2
          go_wp2_with fail
          refine bodyPost_ret (v := .tuple #[.iface Tx vx, v, .bool false]) (by simp [results, Tryd.results67, go_sem]) rfl ⟨by rw [HP.out]; exact ⟨_, _, q4, .inr ⟨_, _, rfl⟩, HV.out, rfl, H4.out⟩, HG4.out⟩
        | some z2 =>
          obtain ⟨y, r4⟩ := z2
          rw [hp2] at hout
          obtain ⟨q4, rfl, h4, hq4⟩ := hout
          have HT4 := hide (take_any 41 41 rfl bt ba bf s q4 w4 h4 hs)
          obtain ⟨Ty, vy, hvy⟩ := y.val_iface
          have HVY := hide hvy
          rw [hvy]
          obtain ⟨x0, x1, x2, hne4⟩ := HX4.out
          unfold rF1 at x0
          unfold rF2 at x1
          unfold rF3 at x2
          clear h4
          go_wp2_with fail
          refine HT4.out.mono ?_
          rintro e w5 ⟨hres, hg5⟩
          rcases hres with ⟨r5, hr5, rfl, h5⟩ | ⟨hno, rfl, h5⟩
          · have HG5 := hide (HG4.out.trans hg5)
            have hrr5 : r4 = 41 :: r5 := by rw [← hq4, hr5]
            have HP : Hid (res = some (x, y, r5)) := by show _ = _; rw [HR2.out]; simp only [pPair, if_true, hp1, HR3.out, hp2, hrr5]
            have HD := hide (drop_next hr5)
            have H5 := hide h5
            clear hg5 hr5 hrr5 h5 hp1 hp2 hq4
            go_wp2_with fail
            refine bodyPost_ret (v := .tuple #[.iface Tx vx, .iface Ty vy, .bool true]) (by simp [results, Tryd.results67, go_sem]) rfl ⟨by rw [HP.out]; exact ⟨q4 + 1, by rw [HVX.out, HVY.out], H5.out, HD.out⟩, HG5.out⟩
          · have HG5 := hide (HG4.out.trans hg5)
            have HP : Hid (res = none) := by
              show _ = _
              rw [HR2.out]
              cases r4 with
              | nil => simp only [pPair, if_true, hp1, HR3.out, hp2]
              | cons c5 r5 =>
                have hc5 : ¬ c5 = 41 := fun e => hno r5 (by rw [hq4, e])
                simp only [pPair, if_true, hp1, HR3.out, hp2, if_neg hc5]
            have H5 := hide h5
            clear hg5 hno h5 hp1 hp2 hq4
            go_wp2_with fail
            refine bodyPost_ret (v := .tuple #[.iface Tx vx, .iface Ty vy, .bool false]) (by simp [results, Tryd.results67, go_sem]) rfl ⟨by rw [HP.out]; exact ⟨_, _, q4, .inr ⟨_, _, rfl⟩, .inr ⟨_, _, rfl⟩, rfl, H5.out⟩, HG5.out⟩
      · have HG3 := hide (HG2.out.trans hg3)
        have HP : Hid (res = none) := by
          show _ = _
          rw [HR2.out]
          cases r1 with
          | nil => simp only [pPair, if_true, hp1]
          | cons c2 r2 =>
            have hc2 : ¬ c2 = 44 := fun e => hno r2 (by rw [hq, e])
            simp only [pPair, if_true, hp1, if_neg hc2]
        have H3 := hide h3
        clear hg3 hno h3 hp1 hq
        go_wp2_with fail
        refine bodyPost_ret (v := .tuple #[.nilIface, .nilIface, .bool false]) (by simp [results, Tryd.results67, go_sem]) rfl ⟨by rw [HP.out]; exact ⟨_, _, q, .inl rfl, .inl rfl, rfl, H3.out⟩, HG3.out⟩
  · have HP : Hid (res = none) := by
      show _ = _
      rw [HRS.out]
      cases hd : s.data.toList.drop p with
      | nil => rfl
      | cons c r =>
        simp only [pPair]
        rw [if_neg (fun e => hno r (by rw [hd, e]))]
    have H1 := hide h1
    clear hno h1
    go_wp2_with fail
    refine bodyPost_ret (v := .tuple #[.nilIface, .nilIface, .bool false]) (by simp [results, Tryd.results67, go_sem]) rfl ⟨by rw [HP.out]; exact ⟨_, _, p, .inl rfl, .inl rfl, rfl, H1.out⟩, HG1.out⟩
end Go.Proofs.YtlmhpdmgjfankaaDoor
