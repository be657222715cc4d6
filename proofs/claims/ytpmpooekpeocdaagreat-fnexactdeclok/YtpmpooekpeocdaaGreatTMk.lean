/- What the specification's l3Make answers: a new node, with its size, how far its variables reach, and whether it has holes. -/
import Derived.Test.YtpmpooekpeocdaaGreatTSpB
namespace Go.Proofs.YtpmpooekpeocdaaGreat
open Go.ChangeShapes Go.WideShapes Go.ChangeAt Go.RowKit

/-- What is kept of a node: its size, how far its variables reach, whether it has holes. -/
structure Zs where
  sz : Int
  lo : Int
  ho : Bool
def tnL (k n m : Int) (s : ByteArray) (lv kv : Value) (z : Zs) : List Value := [.int .i64 k, .int .i64 n, .int .i64 m, .string s, lv, kv, .int .i64 z.sz, .int .i64 z.lo, .bool z.ho]
/-- A node's block. -/
def TnAt (base : Nat) (w : World) (g : Nat) (xs : List Value) : Prop := w.ownsRow base 102 9 (.slice (some ⟨g, 0, none⟩) 1 1) 1 xs
def SzAt (w : World) (p : Nat) (z : Zs) : Prop := ∃ k n m s lv kv, TnAt 0 w p (tnL k n m s lv kv z)
theorem TnAt.keep {base : Nat} {w w' : World} {g : Nat} {xs : List Value} (h : TnAt base w g xs) (hb : Below w.heap.size w w') : TnAt base w' g xs := row_keep hb h
theorem SzAt.keep {w w' : World} {p : Nat} {z : Zs} (h : SzAt w p z) (hb : Below w.heap.size w w') : SzAt w' p z := by
  obtain ⟨k, n, m, s, lv, kv, h⟩ := h
  exact ⟨k, n, m, s, lv, kv, h.keep hb⟩
theorem TnAt.base {base b2 : Nat} {w : World} {g : Nat} {xs : List Value} (h : TnAt base w g xs) (hb : b2 ≤ base) : TnAt b2 w g xs := by
  obtain ⟨h1, h2⟩ := h
  rcases h2 with ⟨h', _⟩ | ⟨g', cap', cur, h', h3, h4⟩
  · simp at h'
  · exact ⟨h1, .inr ⟨g', cap', cur, h', by omega, h4⟩⟩
theorem SzAt.cells {w : World} {p : Nat} {z : Zs} (h : SzAt w p z) : w.cell? ⟨p, 6, none⟩ = some (.int .i64 z.sz) ∧ w.cell? ⟨p, 7, none⟩ = some (.int .i64 z.lo) ∧ w.cell? ⟨p, 8, none⟩ = some (.bool z.ho) ∧ p < w.heap.size := by
  obtain ⟨k, n, m, s, lv, kv, h⟩ := h
  exact ⟨by rw [World.ownsRow.cellAt h 6 (by omega)]; rfl, by rw [World.ownsRow.cellAt h 7 (by omega)]; rfl, by rw [World.ownsRow.cellAt h 8 (by omega)]; rfl, (World.ownsRow.lt h p rfl).2⟩
def sumZ : List Zs → Int
  | [] => 0
  | z :: l => z.sz + sumZ l
theorem sumZ_append (a b : List Zs) : sumZ (a ++ b) = sumZ a + sumZ b := by
  induction a with
  | nil => simp [sumZ]
  | cons x a ih => simp only [List.cons_append, sumZ, ih]; omega
theorem sumZ_snoc (l : List Zs) (i : Nat) (h : i < l.length) : sumZ (l.take (i + 1)) = sumZ (l.take i) + l[i].sz := by
  rw [List.take_succ_eq_append_getElem h, sumZ_append]; simp [sumZ]
theorem sumZ_nonneg (l : List Zs) (h : ∀ z ∈ l, 1 ≤ z.sz) : (l.length : Int) ≤ sumZ l := by
  induction l with
  | nil => simp [sumZ]
  | cons x l ih =>
    simp only [sumZ, List.length_cons]
    have := h x (by simp)
    have := ih (fun z hz => h z (by simp [hz]))
    omega
theorem sumZ_le (l : List Zs) (h : ∀ z ∈ l, 1 ≤ z.sz) (i : Nat) : sumZ (l.take i) ≤ sumZ l := by
  have h1 := sumZ_append (l.take i) (l.drop i)
  rw [List.take_append_drop] at h1
  have h2 := sumZ_nonneg (l.drop i) (fun z hz => h z (List.mem_of_mem_drop hz))
  omega
def lastB (k : Int) (zs : List Zs) (j : Nat) : Bool := decide (j + 1 = zs.length) && bindsB k
def freeAt (k : Int) (zs : List Zs) (j : Nat) : Int := (zs.getD j ⟨0, 0, false⟩).lo - (if lastB k zs j then 1 else 0)
def loP (k n : Int) (zs : List Zs) : Nat → Int
  | 0 => if k = 1 then n + 1 else 0
  | j + 1 => max (loP k n zs j) (freeAt k zs j)
def hoP (k : Int) (zs : List Zs) (j : Nat) : Bool := (k == 9) || (zs.take j).any (·.ho)
/-- What is kept of a new node. -/
def zmk (k n : Int) (zs : List Zs) : Zs := ⟨1 + sumZ zs, loP k n zs zs.length, hoP k zs zs.length⟩
def ZOk (z : Zs) : Prop := 1 ≤ z.sz ∧ 0 ≤ z.lo ∧ z.lo ≤ 20001
theorem loP_bounds (k n : Int) (zs : List Zs) (h : ∀ z ∈ zs, ZOk z) (hn : k = 1 → 0 ≤ n ∧ n ≤ 20000) : ∀ j, 0 ≤ loP k n zs j ∧ loP k n zs j ≤ 20001
  | 0 => by
    unfold loP; split
    · next h1 => have := hn h1; omega
    · omega
  | j + 1 => by
    have ih := loP_bounds k n zs h hn j
    have h2 : (zs.getD j ⟨0, 0, false⟩).lo ≤ 20001 := by
      by_cases hj : j < zs.length
      · have := (h zs[j] (by simp)).2.2
        simpa [List.getD, hj] using this
      · simp [List.getD, hj]
    unfold loP freeAt
    split <;> omega
theorem zmk_ok (k n : Int) (zs : List Zs) (h : ∀ z ∈ zs, ZOk z) (hn : k = 1 → 0 ≤ n ∧ n ≤ 20000) : ZOk (zmk k n zs) := by
  have h1 := sumZ_nonneg zs (fun z hz => (h z hz).1)
  have h2 := loP_bounds k n zs h hn zs.length
  exact ⟨by unfold zmk; dsimp only; omega, h2.1, h2.2⟩
theorem hoP_succ (k : Int) (zs : List Zs) (j : Nat) (h : j < zs.length) : hoP k zs (j + 1) = (hoP k zs j || zs[j].ho) := by
  unfold hoP
  rw [List.take_succ_eq_append_getElem h, List.any_append]
  simp [Bool.or_assoc]
end Go.Proofs.YtpmpooekpeocdaaGreat
