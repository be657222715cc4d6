/- The tokens of a text as plain functions: where a run of bytes stops, which token begins at a place, and the tokens of the whole text. No program is spoken of. -/
import Derived.Test.YtmdcdapjjodpiaaDoorName
import Derived.Lib.SlBytesRow
namespace Go.Proofs.YtmdcdapjjodpiaaDoor
open Go.ChangeShapes Go.WideShapes Go.ChangeAt Go.RowKit

theorem hide {p : Prop} (h : p) : Hid p := h
theorem ret_int {k : IntKind} {a b : Int} (h : a = b) : Ending.returned (.int k a) = .returned (.int k b) := by rw [h]

/-- The byte at a place, 0 where there is none. -/
def bN (T : ByteArray) (j : Nat) : Int := if h : j < T.size then (T[j].toNat : Int) else 0
theorem bN_eq (T : ByteArray) (j : Nat) (h : j < T.size) : bN T j = (T[j].toNat : Int) := by simp [bN, h]

/-- The first place from i on where p does not hold, or the end. -/
def stopAt (p : Nat → Bool) (len i : Nat) : Nat := if i < len ∧ p i = true then stopAt p len (i + 1) else i
termination_by len - i
theorem stop_step {p : Nat → Bool} {len i : Nat} (h : i < len) (hp : p i = true) : stopAt p len i = stopAt p len (i + 1) := by
  conv => lhs; unfold stopAt
  rw [if_pos ⟨h, hp⟩]
theorem stop_not {p : Nat → Bool} {len i : Nat} (hp : p i = false) : stopAt p len i = i := by
  unfold stopAt
  rw [if_neg (fun h => by rw [hp] at h; exact absurd h.2 (by decide))]
theorem stop_end {p : Nat → Bool} {len i : Nat} (h : len ≤ i) : stopAt p len i = i := by
  unfold stopAt
  rw [if_neg (fun h' => by omega)]
theorem stop_ge (p : Nat → Bool) (len : Nat) : ∀ (k i : Nat), len - i ≤ k → i ≤ stopAt p len i ∧ (i ≤ len → stopAt p len i ≤ len)
  | 0, i, h => by rw [stop_end (by omega)]; omega
  | k + 1, i, h => by
    by_cases h1 : i < len
    · cases hp : p i
      · rw [stop_not hp]; omega
      · rw [stop_step h1 hp]
        have := stop_ge p len k (i + 1) (by omega)
        omega
    · rw [stop_end (by omega)]; omega
theorem stop_le (p : Nat → Bool) {len i : Nat} (h : i ≤ len) : i ≤ stopAt p len i ∧ stopAt p len i ≤ len := by
  have := stop_ge p len (len - i) i (Nat.le_refl _)
  exact ⟨this.1, this.2 h⟩
theorem stop_gt {p : Nat → Bool} {len i : Nat} (h : i < len) (hp : p i = true) : i < stopAt p len i ∧ stopAt p len i ≤ len := by
  rw [stop_step h hp]
  have := stop_le p (len := len) (i := i + 1) (by omega)
  omega

/-- A token: its kind, its text, its number, its place. -/
structure Tk where
  k : Nat
  s : ByteArray
  n : Nat
  p : Nat

def noB : ByteArray := ⟨#[]⟩
def dashB : ByteArray := ⟨#[45, 45]⟩
def wordsL : List ByteArray := [⟨#[102, 117, 110]⟩, ⟨#[102, 111, 114, 97, 108, 108]⟩, ⟨#[108, 101, 116]⟩, ⟨#[80, 114, 111, 112]⟩, ⟨#[84, 121, 112, 101]⟩, ⟨#[83, 111, 114, 116]⟩, ⟨#[97, 120, 105, 111, 109]⟩, ⟨#[100, 101, 102]⟩, ⟨#[116, 104, 101, 111, 114, 101, 109]⟩, ⟨#[98, 121]⟩, ⟨#[102, 97, 109, 105, 108, 121]⟩, ⟨#[99, 108, 97, 115, 115]⟩, ⟨#[105, 110, 115, 116, 97, 110, 99, 101]⟩, ⟨#[113, 117, 111, 116, 105, 101, 110, 116]⟩, ⟨#[101, 118, 97, 108]⟩, ⟨#[99, 104, 101, 99, 107]⟩, ⟨#[95]⟩]
def signsL : List ByteArray := [⟨#[58, 61]⟩, ⟨#[61, 62]⟩, ⟨#[45, 62]⟩, ⟨#[60, 45]⟩, ⟨#[47, 92]⟩, ⟨#[92, 47]⟩, ⟨#[46, 123]⟩, ⟨#[40]⟩, ⟨#[41]⟩, ⟨#[123]⟩, ⟨#[125]⟩, ⟨#[91]⟩, ⟨#[93]⟩, ⟨#[58]⟩, ⟨#[44]⟩, ⟨#[59]⟩, ⟨#[124]⟩, ⟨#[64]⟩, ⟨#[61]⟩, ⟨#[43]⟩, ⟨#[42]⟩, ⟨#[46]⟩]

/-- Whether P stands in T at a place. -/
def preB (P T : ByteArray) (i : Nat) : Bool := decide (i + P.size ≤ T.size) && decide (T.extract i (i + P.size) = P)

def nameP (T : ByteArray) (j : Nat) : Bool := goesB (bN T j) || (decide (bN T j = 46) && (decide (j + 1 < T.size) && letB (bN T (j + 1))))
def numP (T : ByteArray) (j : Nat) : Bool := goesB (bN T j)
def noteP (T : ByteArray) (j : Nat) : Bool := !decide (bN T j = 10)
def blankB (n : Int) : Bool := decide (n = 32) || decide (n = 10) || decide (n = 9) || decide (n = 13)

def digU (c : UInt8) : Bool := decide (48 ≤ c.toNat) && decide (c.toNat ≤ 57)
def numU (d : List UInt8) : Nat := d.foldl (fun n c => n * 10 + (c.toNat - 48)) 0
def okNum (s : ByteArray) : Bool := decide (1 ≤ s.size) && decide (s.size ≤ 3) && s.data.toList.all digU
def numN (s : ByteArray) : Nat := if okNum s then numU s.data.toList else 0

def isIn (l : List ByteArray) (s : ByteArray) : Bool := l.any fun x => decide (x = s)

def signAt (T : ByteArray) (i : Nat) : List ByteArray → Option (Tk × Nat)
  | [] => none
  | s :: r => if preB s T i then some (⟨3, s, 0, i⟩, i + s.size) else signAt T i r

def nameTk (T : ByteArray) (i e : Nat) : Tk := ⟨if isIn wordsL (T.extract i e) then 4 else 1, T.extract i e, 0, i⟩
/-- The token that begins at a place, and where it ends. -/
def tokAt (T : ByteArray) (i : Nat) : Option (Tk × Nat) :=
  if letB (bN T i) then
    if nameB (T.extract i (stopAt (nameP T) T.size i)) then some (nameTk T i (stopAt (nameP T) T.size i), stopAt (nameP T) T.size i) else none
  else if digB (bN T i) then
    if okNum (T.extract i (stopAt (numP T) T.size i)) then some (⟨2, noB, numU (T.extract i (stopAt (numP T) T.size i)).data.toList, i⟩, stopAt (numP T) T.size i) else none
  else signAt T i signsL

theorem sign_at (T : ByteArray) (i : Nat) : ∀ (l : List ByteArray) {tk : Tk} {e : Nat}, (∀ s ∈ l, 1 ≤ s.size) → signAt T i l = some (tk, e) → i < e ∧ e ≤ T.size ∧ tk.s.size ≤ T.size ∧ tk.n ≤ 999 ∧ tk.p = i ∧ tk.k = 3
  | [], tk, e, _, h => by simp [signAt] at h
  | s :: r, tk, e, hs, h => by
    unfold signAt at h
    split at h
    · rename_i hp
      simp only [Option.some.injEq, Prod.mk.injEq] at h
      obtain ⟨rfl, rfl⟩ := h
      have h1 := hs s (by simp)
      unfold preB at hp
      simp only [Bool.and_eq_true, decide_eq_true_eq] at hp
      refine ⟨by omega, by omega, ?_, by simp, rfl, rfl⟩
      show s.size ≤ _
      omega
    · exact sign_at T i r (fun x hx => hs x (by simp [hx])) h
theorem signs_pos : ∀ s ∈ signsL, 1 ≤ s.size := by
  intro s hs
  simp only [signsL, List.mem_cons, List.not_mem_nil, or_false] at hs
  rcases hs with rfl | rfl | rfl | rfl | rfl | rfl | rfl | rfl | rfl | rfl | rfl | rfl | rfl | rfl | rfl | rfl | rfl | rfl | rfl | rfl | rfl | rfl <;> decide
theorem ext_size (T : ByteArray) (i e : Nat) (h : i ≤ e) (h2 : e ≤ T.size) : (T.extract i e).size = e - i := by
  rw [ByteArray.size_extract]; omega
theorem num_le : ∀ (d : List UInt8) (a : Nat), d.all digU = true → d.foldl (fun n c => n * 10 + (c.toNat - 48)) a + 1 ≤ (a + 1) * 10 ^ d.length
  | [], a, _ => by simp
  | c :: r, a, h => by
    simp only [List.all_cons, Bool.and_eq_true] at h
    have hc : c.toNat ≤ 57 := by have := h.1; unfold digU at this; simp at this; omega
    have ih := num_le r (a * 10 + (c.toNat - 48)) h.2
    simp only [List.foldl_cons, List.length_cons]
    refine Nat.le_trans ih ?_
    rw [Nat.pow_succ, Nat.mul_comm (10 ^ r.length) 10, ← Nat.mul_assoc]
    exact Nat.mul_le_mul_right _ (by omega)
theorem numU_le {d : List UInt8} (h : d.all digU = true) (hl : d.length ≤ 3) : numU d ≤ 999 := by
  have h1 := num_le d 0 h
  unfold numU
  have h2 : (10 : Nat) ^ d.length ≤ 10 ^ 3 := Nat.pow_le_pow_right (by decide) hl
  simp only [Nat.zero_add, Nat.one_mul] at h1
  have h3 : (10 : Nat) ^ 3 = 1000 := by decide
  omega
theorem goes_let {n : Int} (h : letB n = true) : goesB n = true := by simp [goesB, h]
theorem goes_dig {n : Int} (h : digB n = true) : goesB n = true := by simp [goesB, h]
theorem tok_at {T : ByteArray} {i : Nat} {tk : Tk} {e : Nat} (hi : i < T.size) (h : tokAt T i = some (tk, e)) : i < e ∧ e ≤ T.size ∧ tk.s.size ≤ T.size ∧ tk.n ≤ 999 ∧ tk.p = i ∧ tk.k ≤ 4 := by
  unfold tokAt at h
  split at h
  · rename_i hl
    have hg := stop_gt (p := nameP T) (len := T.size) hi (by simp [nameP, goes_let hl])
    split at h
    · simp only [Option.some.injEq, Prod.mk.injEq] at h
      obtain ⟨rfl, rfl⟩ := h
      refine ⟨hg.1, hg.2, ?_, by simp [nameTk], rfl, ?_⟩
      · show (T.extract _ _).size ≤ _
        rw [ext_size _ _ _ (by omega) hg.2]; omega
      · unfold nameTk; simp only; split <;> decide
    · simp at h
  · split at h
    · rename_i hd
      have hg := stop_gt (p := numP T) (len := T.size) hi (by simp [numP, goes_dig hd])
      split at h
      · rename_i ho
        simp only [Option.some.injEq, Prod.mk.injEq] at h
        obtain ⟨rfl, rfl⟩ := h
        unfold okNum at ho
        simp only [Bool.and_eq_true, decide_eq_true_eq] at ho
        refine ⟨hg.1, hg.2, ?_, numU_le ho.2 ?_, rfl, by show 2 ≤ 4; decide⟩
        · show noB.size ≤ _
          have : noB.size = 0 := rfl
          omega
        · rw [Array.length_toList]; exact ho.1.2
      · simp at h
    · have := sign_at T i signsL signs_pos h
      exact ⟨this.1, this.2.1, this.2.2.1, this.2.2.2.1, this.2.2.2.2.1, by omega⟩

/-- The tokens from a place on, behind those that are there; the code and its place. -/
def scan (T : ByteArray) (i : Nat) (acc : List Tk) : List Tk × Nat × Nat :=
  if _h : i < T.size then
    if blankB (bN T i) then scan T (i + 1) acc
    else if preB dashB T i then
      if _h2 : i < stopAt (noteP T) T.size i then scan T (stopAt (noteP T) T.size i) acc else ([], 4, i)
    else match tokAt T i with
      | none => ([], 4, i)
      | some (tk, e) => if _h2 : i < e then scan T e (acc ++ [tk]) else ([], 4, i)
  else (acc, 0, 0)
termination_by T.size - i
def tokens (T : ByteArray) : List Tk × Nat × Nat := if T.size ≤ 20000 then scan T 0 [] else ([], 3, 0)
theorem scan_end {T : ByteArray} {i : Nat} {acc : List Tk} (h : T.size ≤ i) : scan T i acc = (acc, 0, 0) := by
  unfold scan; rw [dif_neg (by omega)]
theorem scan_blank {T : ByteArray} {i : Nat} {acc : List Tk} (h : i < T.size) (hb : blankB (bN T i) = true) : scan T i acc = scan T (i + 1) acc := by
  conv => lhs; unfold scan
  rw [dif_pos h, if_pos hb]
theorem pre_dash {T : ByteArray} {i : Nat} (hp : preB dashB T i = true) : i + 2 ≤ T.size ∧ bN T i = 45 := by
  unfold preB at hp
  simp only [Bool.and_eq_true, decide_eq_true_eq] at hp
  obtain ⟨h1, h2⟩ := hp
  have hs : dashB.size = 2 := rfl
  rw [hs] at h1 h2
  refine ⟨h1, ?_⟩
  rw [bN_eq T i (by omega)]
  have h3 : (T.extract i (i + 2))[0]'(by rw [ext_size _ _ _ (by omega) h1]; omega) = dashB[0]'(by decide) := by simp only [h2]
  rw [ByteArray.getElem_extract] at h3
  simp only [Nat.add_zero] at h3
  rw [h3]; rfl
theorem scan_note {T : ByteArray} {i : Nat} {acc : List Tk} (h : i < T.size) (hb : blankB (bN T i) = false) (hp : preB dashB T i = true) : i < stopAt (noteP T) T.size i ∧ stopAt (noteP T) T.size i ≤ T.size ∧ scan T i acc = scan T (stopAt (noteP T) T.size i) acc := by
  have hg := stop_gt (p := noteP T) (len := T.size) h (by simp [noteP, (pre_dash hp).2])
  refine ⟨hg.1, hg.2, ?_⟩
  conv => lhs; unfold scan
  rw [dif_pos h, if_neg (by rw [hb]; decide), if_pos hp, dif_pos hg.1]
theorem scan_none {T : ByteArray} {i : Nat} {acc : List Tk} (h : i < T.size) (hb : blankB (bN T i) = false) (hp : preB dashB T i = false) (ht : tokAt T i = none) : scan T i acc = ([], 4, i) := by
  unfold scan
  rw [dif_pos h, if_neg (by rw [hb]; decide), if_neg (by rw [hp]; decide), ht]
theorem scan_some {T : ByteArray} {i e : Nat} {tk : Tk} {acc : List Tk} (h : i < T.size) (hb : blankB (bN T i) = false) (hp : preB dashB T i = false) (ht : tokAt T i = some (tk, e)) : scan T i acc = scan T e (acc ++ [tk]) := by
  have hg := tok_at h ht
  conv => lhs; unfold scan
  rw [dif_pos h, if_neg (by rw [hb]; decide), if_neg (by rw [hp]; decide), ht]
  simp only
  rw [dif_pos hg.1]
end Go.Proofs.YtmdcdapjjodpiaaDoor
