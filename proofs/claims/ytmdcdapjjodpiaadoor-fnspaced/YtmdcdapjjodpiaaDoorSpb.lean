/- The line of a text's tokens is cut into the same tokens: plain. -/
import Derived.Test.YtmdcdapjjodpiaaDoorSpa
namespace Go.Proofs.YtmdcdapjjodpiaaDoor
open Go.ChangeShapes Go.WideShapes Go.ChangeAt Go.RowKit

def dig3 (n : Nat) : ByteArray := ⟨#[UInt8.ofNat (48 + n / 100), UInt8.ofNat (48 + n / 10 % 10), UInt8.ofNat (48 + n % 10)]⟩
theorem dig_of {a : Nat} (h : a ≤ 9) : (UInt8.ofNat (48 + a)).toNat = 48 + a := by rw [UInt8.toNat_ofNat']; omega
theorem tokAt_eq' (T : ByteArray) (i : Nat) : tokAt T i = if letB (bN T i) then (if nameB (T.extract i (stopAt (nameP T) T.size i)) then some (nameTk T i (stopAt (nameP T) T.size i), stopAt (nameP T) T.size i) else none) else if digB (bN T i) then (if okNum (T.extract i (stopAt (numP T) T.size i)) then some (⟨2, noB, numU (T.extract i (stopAt (numP T) T.size i)).data.toList, i⟩, stopAt (numP T) T.size i) else none) else signAt T i signsL := rfl
theorem dig3_bytes {n : Nat} (h : n ≤ 999) : (bN (dig3 n) 0 = 48 + ((n / 100 : Nat) : Int)) ∧ (bN (dig3 n) 1 = 48 + ((n / 10 % 10 : Nat) : Int)) ∧ (bN (dig3 n) 2 = 48 + ((n % 10 : Nat) : Int)) := by
  have hs : (dig3 n).size = 3 := rfl
  refine ⟨?_, ?_, ?_⟩
  · rw [bN_eq _ 0 (by omega)]
    show ((UInt8.ofNat (48 + n / 100)).toNat : Int) = _
    rw [dig_of (by omega)]; omega
  · rw [bN_eq _ 1 (by omega)]
    show ((UInt8.ofNat (48 + n / 10 % 10)).toNat : Int) = _
    rw [dig_of (by omega)]; omega
  · rw [bN_eq _ 2 (by omega)]
    show ((UInt8.ofNat (48 + n % 10)).toNat : Int) = _
    rw [dig_of (by omega)]; omega
theorem dig3_num {n : Nat} (h : n ≤ 999) : numU (dig3 n).data.toList = n := by
  show numU [UInt8.ofNat (48 + n / 100), UInt8.ofNat (48 + n / 10 % 10), UInt8.ofNat (48 + n % 10)] = n
  unfold numU
  simp only [List.foldl_cons, List.foldl_nil]
  rw [dig_of (by omega), dig_of (by omega), dig_of (by omega)]
  omega
theorem dig3_ok {n : Nat} (h : n ≤ 999) : okNum (dig3 n) = true := by
  have hs : (dig3 n).size = 3 := rfl
  unfold okNum
  rw [hs]
  show (decide (1 ≤ 3) && decide (3 ≤ 3) && List.all [UInt8.ofNat (48 + n / 100), UInt8.ofNat (48 + n / 10 % 10), UInt8.ofNat (48 + n % 10)] digU) = true
  simp only [List.all_cons, List.all_nil, digU]
  rw [dig_of (by omega), dig_of (by omega), dig_of (by omega)]
  simp
  omega
theorem dig3_dig {n : Nat} (h : n ≤ 999) : ∀ j, j < (dig3 n).size → digB (bN (dig3 n) j) = true := by
  have hs : (dig3 n).size = 3 := rfl
  obtain ⟨h0, h1, h2⟩ := dig3_bytes h
  intro j hj
  rw [hs] at hj
  rcases (show j = 0 ∨ j = 1 ∨ j = 2 by omega) with rfl | rfl | rfl
  · rw [h0]; simp [digB]; omega
  · rw [h1]; simp [digB]; omega
  · rw [h2]; simp [digB]; omega
/-- What stands for a token in the line. -/
def pieceB (tk : Tk) : ByteArray := if tk.k = 2 then dig3 tk.n else tk.s
def FromT (T : ByteArray) (tk : Tk) : Prop := ∃ i e, i < T.size ∧ tokAt T i = some (tk, e)
/-- Alike but for the place. -/
def Alike (a b : Tk) : Prop := a.k = b.k ∧ a.s = b.s ∧ a.n = b.n
theorem sign_sits (T : ByteArray) (i : Nat) : ∀ (l : List ByteArray) {tk : Tk} {e : Nat}, signAt T i l = some (tk, e) → tk.s ∈ l ∧ Sits T i tk.s ∧ tk.n = 0
  | [], _, _, h => by simp [signAt] at h
  | r :: l, tk, e, h => by
    unfold signAt at h
    by_cases hp : preB r T i = true
    · rw [if_pos hp] at h
      simp only [Option.some.injEq, Prod.mk.injEq] at h
      obtain ⟨rfl, _⟩ := h
      exact ⟨by simp, (pre_iff _ _ _).1 hp, rfl⟩
    · rw [if_neg hp] at h
      obtain ⟨h1, h2⟩ := sign_sits T i l h
      exact ⟨by simp [h1], h2⟩
theorem signs_first : ∀ r ∈ signsL, 0 < r.size ∧ blankB (bN r 0) = false ∧ (bN r 0 = 45 → 1 < r.size ∧ bN r 1 ≠ 45) := by
  intro r hr
  simp only [signsL, List.mem_cons, List.not_mem_nil, or_false] at hr
  rcases hr with rfl | rfl | rfl | rfl | rfl | rfl | rfl | rfl | rfl | rfl | rfl | rfl | rfl | rfl | rfl | rfl | rfl | rfl | rfl | rfl | rfl | rfl <;> decide
theorem dash_sits {L : ByteArray} {i : Nat} (h : preB dashB L i = true) : i + 2 ≤ L.size ∧ bN L i = 45 ∧ bN L (i + 1) = 45 := by
  rw [pre_iff] at h
  obtain ⟨h1, h2⟩ := h
  have hs : dashB.size = 2 := rfl
  rw [hs] at h1 h2
  have a0 := h2 0 (by omega)
  have a1 := h2 1 (by omega)
  rw [Nat.add_zero] at a0
  exact ⟨h1, a0.trans (by decide), a1.trans (by decide)⟩
theorem tok_reads {T L : ByteArray} {i : Nat} {tk : Tk} (hw : FromT T tk) (hs : Sits L i (pieceB tk)) (hb : bN L (i + (pieceB tk).size) = 32) :
    ∃ tk', tokAt L i = some (tk', i + (pieceB tk).size) ∧ Alike tk' tk ∧ blankB (bN L i) = false ∧ preB dashB L i = false ∧ 0 < (pieceB tk).size := by
  obtain ⟨i0, e, hi0, ht⟩ := hw
  rw [tokAt_eq'] at ht
  cases hl : letB (bN T i0)
  · cases hd : digB (bN T i0)
    · rw [hl, hd] at ht
      have ht : signAt T i0 signsL = some (tk, e) := ht
      obtain ⟨m1, m2, m3⟩ := sign_sits T i0 signsL ht
      have hk := (sign_at T i0 signsL signs_pos ht).2.2.2.2.2
      have hp : pieceB tk = tk.s := by unfold pieceB; rw [if_neg (by omega)]
      rw [hp] at hs hb ⊢
      obtain ⟨f1, f2, f3⟩ := signs_first tk.s m1
      have e0 := hs.2 0 f1
      rw [Nat.add_zero] at e0
      have hr := sign_reads hs hb m2 signsL signs_32 ht rfl
      refine ⟨⟨3, tk.s, 0, i⟩, ?_, ⟨?_, rfl, m3.symm⟩, by rw [e0]; exact f2, ?_, f1⟩
      · rw [tokAt_eq']
        have hb0 : bN L i = bN T i0 := by
          have := m2.2 0 f1
          rw [Nat.add_zero] at this
          rw [e0, this]
        rw [hb0, hl, hd]
        exact hr
      · show 3 = tk.k; omega
      · rw [Bool.eq_false_iff]
        intro hq
        obtain ⟨q1, q2, q3⟩ := dash_sits hq
        rw [e0] at q2
        obtain ⟨g1, g2⟩ := f3 q2
        rw [hs.2 1 g1] at q3
        exact g2 q3
    · rw [hl, hd] at ht
      have ht : (if okNum (T.extract i0 (stopAt (numP T) T.size i0)) then some ((⟨2, noB, numU (T.extract i0 (stopAt (numP T) T.size i0)).data.toList, i0⟩ : Tk), stopAt (numP T) T.size i0) else none) = some (tk, e) := ht
      split at ht
      · rename_i ho
        simp only [Option.some.injEq, Prod.mk.injEq] at ht
        obtain ⟨rfl, _⟩ := ht
        have hn : numU (T.extract i0 (stopAt (numP T) T.size i0)).data.toList ≤ 999 := by
          unfold okNum at ho
          simp only [Bool.and_eq_true, decide_eq_true_eq] at ho
          exact numU_le ho.2 (by rw [Array.length_toList]; exact ho.1.2)
        generalize numU (T.extract i0 (stopAt (numP T) T.size i0)).data.toList = n at *
        have hp : pieceB ⟨2, noB, n, i0⟩ = dig3 n := rfl
        rw [hp] at hs hb ⊢
        have hz : (dig3 n).size = 3 := rfl
        have e0 := hs.2 0 (by omega)
        rw [Nat.add_zero, (dig3_bytes hn).1] at e0
        have hr := number_reads hs hb (dig3_ok hn) (dig3_dig hn) (by omega)
        rw [dig3_num hn] at hr
        refine ⟨_, hr, ⟨rfl, rfl, rfl⟩, ?_, ?_, by omega⟩
        · rw [e0]
          unfold blankB
          simp
          omega
        · rw [Bool.eq_false_iff]
          intro hq
          obtain ⟨q1, q2, q3⟩ := dash_sits hq
          omega
      · simp at ht
  · rw [hl] at ht
    have ht : (if nameB (T.extract i0 (stopAt (nameP T) T.size i0)) then some (nameTk T i0 (stopAt (nameP T) T.size i0), stopAt (nameP T) T.size i0) else none) = some (tk, e) := ht
    split at ht
    · rename_i ho
      have hnt := name_text hi0 hl
      simp only [Option.some.injEq, Prod.mk.injEq] at ht
      obtain ⟨rfl, _⟩ := ht
      have hp : pieceB (nameTk T i0 (stopAt (nameP T) T.size i0)) = T.extract i0 (stopAt (nameP T) T.size i0) := by
        unfold pieceB nameTk
        simp only
        rw [if_neg (by split <;> decide)]
      rw [hp] at hs hb ⊢
      have hr := name_reads hs hb hnt ho
      obtain ⟨h0, h1, h2⟩ := hnt
      have e0 := hs.2 0 h0
      rw [Nat.add_zero] at e0
      have hnl := let_not46 h1
      have hnb : blankB (bN (T.extract i0 (stopAt (nameP T) T.size i0)) 0) = false := by
        unfold letB at h1
        simp only [Bool.or_eq_true, Bool.and_eq_true, decide_eq_true_eq] at h1
        unfold blankB
        simp
        omega
      refine ⟨_, hr, ⟨rfl, rfl, rfl⟩, by rw [e0]; exact hnb, ?_, h0⟩
      rw [Bool.eq_false_iff]
      intro hq
      obtain ⟨q1, q2, q3⟩ := dash_sits hq
      rw [e0] at q2
      exact hnl.2.2 q2
    · simp at ht
def lineB (ts : List Tk) : List UInt8 := ts.flatMap fun tk => (pieceB tk).data.toList ++ [32]
theorem lineB_cons (tk : Tk) (ts : List Tk) : lineB (tk :: ts) = (pieceB tk).data.toList ++ [32] ++ lineB ts := by unfold lineB; rw [List.flatMap_cons]
theorem lineB_snoc (ts : List Tk) (tk : Tk) : lineB (ts ++ [tk]) = lineB ts ++ ((pieceB tk).data.toList ++ [32]) := by unfold lineB; rw [List.flatMap_append]; simp
theorem bN_get {L : ByteArray} {j : Nat} {c : UInt8} (h : L.data.toList[j]? = some c) : bN L j = (c.toNat : Int) := by
  obtain ⟨h1, h2⟩ := List.getElem?_eq_some_iff.1 h
  have h3 : j < L.size := by simpa using h1
  rw [bN_eq L j h3]
  have : L.data.toList[j] = L[j] := by rw [Array.getElem_toList]; rfl
  rw [← this, h2]
theorem line_scan {T L : ByteArray} : ∀ (ts : List Tk) (A : List UInt8) (acc : List Tk), L.data.toList = A ++ lineB ts → (∀ tk ∈ ts, FromT T tk) →
    ∃ ts', scan L A.length acc = (acc ++ ts', 0, 0) ∧ ts'.length = ts.length ∧ ∀ j (h : j < ts.length) (h2 : j < ts'.length), Alike ts'[j] ts[j]
  | [], A, acc, hL, _ => by
    refine ⟨[], ?_, rfl, fun j h => by simp at h⟩
    have hz : L.size = A.length := by
      have : L.data.toList.length = A.length := by rw [hL]; simp [lineB]
      simpa using this
    rw [scan_end (by omega), List.append_nil]
  | tk :: ts, A, acc, hL, hw => by
    rw [lineB_cons] at hL
    have hz : L.size = A.length + ((pieceB tk).size + 1 + (lineB ts).length) := by
      have : L.data.toList.length = A.length + ((pieceB tk).size + 1 + (lineB ts).length) := by
        rw [hL]
        simp only [List.length_append, List.length_cons, List.length_nil, Array.length_toList]
        rfl
      simpa using this
    have hs : Sits L A.length (pieceB tk) := by
      refine ⟨by omega, fun j hj => ?_⟩
      have hj2 : j < (pieceB tk).data.toList.length := by simpa using hj
      have h1 : L.data.toList[A.length + j]? = some ((pieceB tk).data.toList[j]'hj2) := by
        rw [hL, List.getElem?_append_right (by omega), Nat.add_sub_cancel_left, List.append_assoc, List.getElem?_append_left hj2, List.getElem?_eq_getElem hj2]
      rw [bN_get h1, bN_get (List.getElem?_eq_getElem hj2)]
    have hb : bN L (A.length + (pieceB tk).size) = 32 := by
      have hl : (pieceB tk).data.toList.length = (pieceB tk).size := by simp
      have h1 : L.data.toList[A.length + (pieceB tk).size]? = some 32 := by
        rw [hL, List.getElem?_append_right (by omega), Nat.add_sub_cancel_left, List.append_assoc, List.getElem?_append_right (by omega), hl, Nat.sub_self]
        rfl
      rw [bN_get h1]; rfl
    obtain ⟨tk', h1, h2, h3, h4, h5⟩ := tok_reads (hw tk (by simp)) hs hb
    have hlt : A.length < L.size := by omega
    have s1 := scan_some (acc := acc) hlt h3 h4 h1
    have s2 := scan_blank (T := L) (i := A.length + (pieceB tk).size) (acc := acc ++ [tk']) (by omega) (by rw [hb]; decide)
    obtain ⟨ts', q1, q2, q3⟩ := line_scan ts (A ++ (pieceB tk).data.toList ++ [32]) (acc ++ [tk']) (by rw [hL]; simp) (fun x hx => hw x (by simp [hx]))
    have hAl : (A ++ (pieceB tk).data.toList ++ [32]).length = A.length + (pieceB tk).size + 1 := by
      simp only [List.length_append, List.length_cons, List.length_nil, Array.length_toList]
      rfl
    rw [hAl] at q1
    refine ⟨tk' :: ts', ?_, by simp [q2], fun j hj hj2 => ?_⟩
    · rw [s1, s2, q1]; simp
    · cases j with
      | zero => exact h2
      | succ j => exact q3 j (by simp at hj; omega) (by simp at hj2; omega)
theorem scan_from (T : ByteArray) : ∀ (m i : Nat) (acc : List Tk), T.size - i ≤ m → (∀ tk ∈ acc, FromT T tk) → ∀ tk ∈ (scan T i acc).1, FromT T tk := by
  intro m
  induction m with
  | zero =>
    intro i acc h1 h2
    rw [scan_end (by omega)]
    exact h2
  | succ m ih =>
    intro i acc h1 h2
    by_cases hi : i < T.size
    · cases hb : blankB (bN T i)
      · cases hp : preB dashB T i
        · cases ht : tokAt T i with
          | none => rw [scan_none hi hb hp ht]; intro tk h; simp at h
          | some x =>
            obtain ⟨tk, e⟩ := x
            have hg := tok_at hi ht
            rw [scan_some hi hb hp ht]
            refine ih e _ (by omega) fun x hx => ?_
            rcases List.mem_append.1 hx with hx | hx
            · exact h2 x hx
            · simp at hx
              subst hx
              exact ⟨i, e, hi, ht⟩
        · obtain ⟨g1, g2, g3⟩ := scan_note (acc := acc) hi hb hp
          rw [g3]
          exact ih _ _ (by omega) h2
      · rw [scan_blank hi hb]
        exact ih _ _ (by omega) h2
    · rw [scan_end (by omega)]
      exact h2
theorem tokens_from (T : ByteArray) : ∀ tk ∈ (tokens T).1, FromT T tk := by
  unfold tokens
  split
  · exact scan_from T T.size 0 [] (by omega) (fun tk h => by simp at h)
  · intro tk h; simp at h
/-- The line is cut into the same tokens. -/
theorem line_tokens (T : ByteArray) (ts : List Tk) (hts : (tokens T).1 = ts) (hl : (lineB ts).length ≤ 20000) :
    ∃ ts', tokens ⟨(lineB ts).toArray⟩ = (ts', 0, 0) ∧ ts'.length = ts.length ∧ ∀ j (h : j < ts.length) (h2 : j < ts'.length), Alike ts'[j] ts[j] := by
  obtain ⟨ts', h1, h2, h3⟩ := line_scan (T := T) (L := ⟨(lineB ts).toArray⟩) ts [] [] (by simp) (fun tk h => tokens_from T tk (by rw [hts]; exact h))
  refine ⟨ts', ?_, h2, h3⟩
  unfold tokens
  rw [if_pos (by show (lineB ts).toArray.size ≤ 20000; simpa using hl)]
  simpa using h1
end Go.Proofs.YtmdcdapjjodpiaaDoor
