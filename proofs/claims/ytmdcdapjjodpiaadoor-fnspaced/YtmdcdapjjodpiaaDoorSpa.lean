/- That the texts of a text's tokens, with blanks between, are cut into the same tokens: plain, no program is spoken of. -/
import Derived.Test.YtmdcdapjjodpiaaDoorPla
namespace Go.Proofs.YtmdcdapjjodpiaaDoor
open Go.ChangeShapes Go.WideShapes Go.ChangeAt Go.RowKit

/-- P stands in L from i on. -/
def Sits (L : ByteArray) (i : Nat) (P : ByteArray) : Prop := i + P.size ≤ L.size ∧ ∀ j, j < P.size → bN L (i + j) = bN P j
theorem bN_inj {A B : ByteArray} (hl : A.size = B.size) (h : ∀ j, j < A.size → bN A j = bN B j) : A = B := by
  apply ByteArray.ext
  apply Array.ext hl
  intro j h1 h2
  have := h j h1
  rw [bN_eq A j h1, bN_eq B j h2] at this
  exact UInt8.toNat_inj.1 (by have h3 : (A.data[j].toNat : Int) = (B.data[j].toNat : Int) := this; omega)
theorem bN_ext (L : ByteArray) (i e j : Nat) (h : e ≤ L.size) (hj : i + j < e) : bN (L.extract i e) j = bN L (i + j) := by
  have hs := ext_size L i e (by omega) h
  rw [bN_eq _ j (by omega), bN_eq L (i + j) (by omega), ByteArray.getElem_extract]
theorem pre_iff (P L : ByteArray) (i : Nat) : preB P L i = true ↔ Sits L i P := by
  unfold preB Sits
  rw [Bool.and_eq_true, decide_eq_true_eq, decide_eq_true_eq]
  constructor
  · rintro ⟨h1, h2⟩
    refine ⟨h1, fun j hj => ?_⟩
    rw [← bN_ext L i (i + P.size) j h1 (by omega), h2]
  · rintro ⟨h1, h2⟩
    refine ⟨h1, bN_inj (ext_size _ _ _ (by omega) h1 |>.trans (by omega)) fun j hj => ?_⟩
    rw [ext_size _ _ _ (by omega) h1] at hj
    rw [bN_ext L i _ j h1 (by omega), h2 j (by omega)]
theorem stop_is {p : Nat → Bool} {len : Nat} : ∀ (k : Nat) {i e : Nat}, e - i ≤ k → i ≤ e → e ≤ len → (∀ j, i ≤ j → j < e → p j = true) → (e < len → p e = false) → stopAt p len i = e
  | 0, i, e, h, h1, h2, _, h4 => by
    obtain rfl : i = e := by omega
    by_cases hl : i < len
    · exact stop_not (h4 hl)
    · exact stop_end (by omega)
  | k + 1, i, e, h, h1, h2, h3, h4 => by
    by_cases hie : i = e
    · subst hie
      by_cases hl : i < len
      · exact stop_not (h4 hl)
      · exact stop_end (by omega)
    · rw [stop_step (by omega) (h3 i (Nat.le_refl _) (by omega))]
      exact stop_is k (by omega) (by omega) h2 (fun j hj hj2 => h3 j (by omega) hj2) h4
theorem stop_all {p : Nat → Bool} {len : Nat} : ∀ (k : Nat) {i : Nat}, len - i ≤ k → ∀ j, i ≤ j → j < stopAt p len i → p j = true
  | 0, i, h, j, h1, h2 => by rw [stop_end (by omega)] at h2; omega
  | k + 1, i, h, j, h1, h2 => by
    by_cases hl : i < len
    · cases hp : p i
      · rw [stop_not hp] at h2; omega
      · by_cases hij : j = i
        · rw [hij]; exact hp
        · rw [stop_step hl hp] at h2
          exact stop_all k (by omega) j (by omega) h2
    · rw [stop_end (by omega)] at h2; omega
theorem stop_fail {p : Nat → Bool} {len : Nat} : ∀ (k : Nat) {i : Nat}, len - i ≤ k → stopAt p len i < len → p (stopAt p len i) = false
  | 0, i, h, h2 => by rw [stop_end (by omega)] at h2; omega
  | k + 1, i, h, h2 => by
    by_cases hl : i < len
    · cases hp : p i
      · rw [stop_not hp]; exact hp
      · rw [stop_step hl hp] at h2 ⊢
        exact stop_fail k (by omega) h2
    · rw [stop_end (by omega)] at h2; omega

/-- A name's text that stands by itself. -/
def NameText (s : ByteArray) : Prop := 0 < s.size ∧ letB (bN s 0) = true ∧ ∀ j, j < s.size → goesB (bN s j) = true ∨ (bN s j = 46 ∧ j + 1 < s.size ∧ letB (bN s (j + 1)) = true)
theorem let_not46 {n : Int} (h : letB n = true) : n ≠ 46 ∧ n ≠ 32 ∧ n ≠ 45 := by
  unfold letB at h
  simp only [Bool.or_eq_true, Bool.and_eq_true, decide_eq_true_eq] at h
  omega
theorem goes_32 : goesB 32 = false := by decide
theorem name_text {T : ByteArray} {i : Nat} (hi : i < T.size) (hl : letB (bN T i) = true) : NameText (T.extract i (stopAt (nameP T) T.size i)) := by
  have hg := stop_gt (p := nameP T) (len := T.size) hi (by simp [nameP, goes_let hl])
  have ha := stop_all (p := nameP T) (len := T.size) (T.size - i) (i := i) (Nat.le_refl _)
  have hf := stop_fail (p := nameP T) (len := T.size) (T.size - i) (i := i) (Nat.le_refl _)
  generalize stopAt (nameP T) T.size i = e at *
  have hs := ext_size T i e (by omega) hg.2
  refine ⟨by omega, ?_, fun j hj => ?_⟩
  · rw [bN_ext T i e 0 hg.2 (by omega)]; exact hl
  · rw [hs] at hj
    rw [bN_ext T i e j hg.2 (by omega)]
    have h1 := ha (i + j) (by omega) (by omega)
    unfold nameP at h1
    rw [Bool.or_eq_true, Bool.and_eq_true, Bool.and_eq_true, decide_eq_true_eq, decide_eq_true_eq] at h1
    rcases h1 with h1 | ⟨h1, h2, h3⟩
    · exact .inl h1
    · by_cases hje : i + j + 1 < e
      · refine .inr ⟨h1, by omega, ?_⟩
        rw [bN_ext T i e (j + 1) hg.2 (by omega)]
        exact h3
      · exfalso
        have he : i + j + 1 = e := by omega
        rw [he] at h2 h3
        have h4 := hf h2
        unfold nameP at h4
        rw [goes_let h3] at h4
        simp at h4
/-- Where a name stands with a blank behind it, it is read. -/
theorem name_reads {L s : ByteArray} {i : Nat} (hs : Sits L i s) (hb : bN L (i + s.size) = 32) (hn : NameText s) (hok : nameB s = true) : tokAt L i = some (⟨if isIn wordsL s then 4 else 1, s, 0, i⟩, i + s.size) := by
  obtain ⟨h1, h2⟩ := hs
  obtain ⟨h3, h4, h5⟩ := hn
  have hbi : bN L i = bN s 0 := by have := h2 0 h3; rwa [Nat.add_zero] at this
  have hst : stopAt (nameP L) L.size i = i + s.size := by
    refine stop_is s.size (by omega) (by omega) h1 (fun j hj1 hj2 => ?_) (fun _ => ?_)
    · have hj := h5 (j - i) (by omega)
      have e1 := h2 (j - i) (by omega)
      rw [show i + (j - i) = j by omega] at e1
      unfold nameP
      rw [Bool.or_eq_true, Bool.and_eq_true, Bool.and_eq_true, decide_eq_true_eq, decide_eq_true_eq, e1]
      rcases hj with hj | ⟨hj1', hj2', hj3⟩
      · exact .inl hj
      · refine .inr ⟨hj1', by omega, ?_⟩
        have e2 := h2 (j - i + 1) hj2'
        rw [show i + (j - i + 1) = j + 1 by omega] at e2
        rw [e2]; exact hj3
    · unfold nameP
      rw [hb, goes_32]
      simp
  have hex : L.extract i (i + s.size) = s := by
    refine bN_inj ((ext_size _ _ _ (by omega) h1).trans (by omega)) fun j hj => ?_
    rw [ext_size _ _ _ (by omega) h1] at hj
    rw [bN_ext L i _ j h1 (by omega)]
    exact h2 j (by omega)
  unfold tokAt
  rw [if_pos (by rw [hbi]; exact h4), hst, hex, if_pos hok]
  unfold nameTk
  rw [hex]
/-- A number's text of digits alone. -/
theorem number_reads {L s : ByteArray} {i : Nat} (hs : Sits L i s) (hb : bN L (i + s.size) = 32) (hok : okNum s = true) (hd : ∀ j, j < s.size → digB (bN s j) = true) (h0 : 0 < s.size) : tokAt L i = some (⟨2, noB, numU s.data.toList, i⟩, i + s.size) := by
  obtain ⟨h1, h2⟩ := hs
  have hbi : bN L i = bN s 0 := by have := h2 0 h0; rwa [Nat.add_zero] at this
  have hd0 := hd 0 h0
  have hl0 : letB (bN s 0) = false := by
    unfold digB at hd0
    simp only [Bool.and_eq_true, decide_eq_true_eq] at hd0
    unfold letB
    rw [Bool.eq_false_iff]
    intro h
    simp only [Bool.or_eq_true, Bool.and_eq_true, decide_eq_true_eq] at h
    omega
  have hst : stopAt (numP L) L.size i = i + s.size := by
    refine stop_is s.size (by omega) (by omega) h1 (fun j hj1 hj2 => ?_) (fun _ => ?_)
    · have hj := hd (j - i) (by omega)
      have e1 := h2 (j - i) (by omega)
      rw [show i + (j - i) = j by omega] at e1
      unfold numP
      rw [e1]
      exact goes_dig hj
    · unfold numP
      rw [hb]; exact goes_32
  have hex : L.extract i (i + s.size) = s := by
    refine bN_inj ((ext_size _ _ _ (by omega) h1).trans (by omega)) fun j hj => ?_
    rw [ext_size _ _ _ (by omega) h1] at hj
    rw [bN_ext L i _ j h1 (by omega)]
    exact h2 j (by omega)
  unfold tokAt
  rw [if_neg (by rw [hbi, hl0]; decide), if_pos (by rw [hbi]; exact hd0), hst, hex, if_pos hok]
theorem sign_reads {T L s : ByteArray} {i0 i : Nat} (hs : Sits L i s) (hb : bN L (i + s.size) = 32) (hT : Sits T i0 s) : ∀ (l : List ByteArray) {e : Nat} {tk : Tk}, (∀ r ∈ l, ∀ j, j < r.size → bN r j ≠ 32) → signAt T i0 l = some (tk, e) → tk.s = s → signAt L i l = some (⟨3, s, 0, i⟩, i + s.size)
  | [], e, tk, _, h, _ => by simp [signAt] at h
  | r :: l, e, tk, h32, h, hts => by
    unfold signAt at h ⊢
    by_cases hp : preB r T i0 = true
    · rw [if_pos hp] at h
      simp only [Option.some.injEq, Prod.mk.injEq] at h
      obtain ⟨rfl, _⟩ := h
      obtain rfl : r = s := hts
      rw [if_pos ((pre_iff _ _ _).2 hs)]
    · rw [if_neg hp] at h
      have hq : ¬ preB r L i = true := by
        intro hq
        rw [pre_iff] at hq hp
        obtain ⟨q1, q2⟩ := hq
        by_cases hle : r.size ≤ s.size
        · apply hp
          refine ⟨by have := hT.1; omega, fun j hj => ?_⟩
          rw [hT.2 j (by omega), ← hs.2 j (by omega), q2 j hj]
        · have := q2 s.size (by omega)
          rw [hb] at this
          exact h32 r (by simp) s.size (by omega) this.symm
      rw [if_neg hq]
      exact sign_reads hs hb hT l (fun x hx => h32 x (by simp [hx])) h hts
theorem signs_32 : ∀ r ∈ signsL, ∀ j, j < r.size → bN r j ≠ 32 := by
  intro r hr
  simp only [signsL, List.mem_cons, List.not_mem_nil, or_false] at hr
  rcases hr with rfl | rfl | rfl | rfl | rfl | rfl | rfl | rfl | rfl | rfl | rfl | rfl | rfl | rfl | rfl | rfl | rfl | rfl | rfl | rfl | rfl | rfl <;> decide
end Go.Proofs.YtmdcdapjjodpiaaDoor
