/- The specification's table of greatest sums, plain: a number that stands for no way, and the rows. -/
import Derived.Test.YteedainidoldoaaSvC
namespace Go.Proofs.Yteedainidoldoaa
open Go.ChangeShapes Go.WideShapes Go.ChangeAt Go.RowKit

/-- The number that stands for no way. -/
def NoW : Int := -1099511627776
def vl (n : Int) (o : Option Int) : Int := match o with
  | some v => n + v
  | none => NoW
def stI (cs : List Ct) (k home s : Nat) (acc : Option Int) (c : Ct) : Option Int := if jn s c = true then omax acc ((ib cs k c.b home).map (fun v => c.n + v)) else acc
theorem ib_succ (cs : List Ct) (k s home : Nat) : ib cs (k + 1) s home = cs.foldl (stI cs k home s) none := rfl
def InO (M : Int) (o : Option Int) : Prop := ∀ v, o = some v → -M ≤ v ∧ v ≤ M
theorem omax_in {M : Int} {a b : Option Int} (ha : InO M a) (hb : InO M b) : InO M (omax a b) := by
  cases a with
  | none => exact hb
  | some x => cases b with
    | none => exact ha
    | some y =>
      intro v hv
      have hx := ha x rfl
      have hy := hb y rfl
      simp only [omax, Option.some.injEq] at hv
      split at hv <;> omega
theorem stI_in {cs : List Ct} {k home s : Nat} {acc : Option Int} {c : Ct} {M : Int} (ha : InO (M + 1000) acc) (hb : InO M (ib cs k c.b home)) (hc : -1000 ≤ c.n ∧ c.n ≤ 1000) : InO (M + 1000) (stI cs k home s acc c) := by
  unfold stI
  split
  · refine omax_in ha ?_
    intro v hv
    rw [Option.map_eq_some_iff] at hv
    obtain ⟨u, hu, rfl⟩ := hv
    have := hb u hu
    omega
  · exact ha
theorem foldI_in {cs : List Ct} {k home s : Nat} {M : Int} (hb : ∀ t, InO M (ib cs k t home)) : ∀ (l : List Ct) (acc : Option Int), (∀ c ∈ l, -1000 ≤ c.n ∧ c.n ≤ 1000) → InO (M + 1000) acc → InO (M + 1000) (l.foldl (stI cs k home s) acc)
  | [], _, _, h => h
  | c :: l, acc, hc, h => by
    rw [List.foldl_cons]
    exact foldI_in hb l _ (fun c' h' => hc c' (List.mem_cons_of_mem _ h')) (stI_in h (hb _) (hc c (List.mem_cons_self ..)))
theorem none_in (M : Int) : InO M none := fun v h => by cases h
theorem ib_in {cs : List Ct} (hc : ∀ c ∈ cs, -1000 ≤ c.n ∧ c.n ≤ 1000) : ∀ (k s home : Nat), InO (1000 * (k : Int)) (ib cs k s home)
  | 0, s, home => by
    intro v hv
    unfold ib at hv
    split at hv
    · simp only [Option.some.injEq] at hv; omega
    · cases hv
  | k + 1, s, home => by
    rw [ib_succ]
    have h := foldI_in (cs := cs) (k := k) (home := home) (s := s) (M := 1000 * (k : Int)) (fun t => ib_in hc k t home) cs none hc (none_in _)
    have e : (1000 * (k : Int) + 1000) = 1000 * ((k + 1 : Nat) : Int) := by omega
    rw [← e]
    exact h
theorem vl_in {n M : Int} {o : Option Int} (ho : InO M o) (hn : -1000 ≤ n ∧ n ≤ 1000) (hM : M ≤ 1000000000) : vl n o = NoW ∨ (NoW < vl n o ∧ -(M + 1000) ≤ vl n o ∧ vl n o ≤ M + 1000) := by
  cases o with
  | none => exact .inl rfl
  | some v =>
    have := ho v rfl
    right
    show NoW < n + v ∧ _ ≤ n + v ∧ n + v ≤ _
    unfold NoW
    omega
/-- One step of the specification's inner loop. -/
theorem vl_step {cs : List Ct} {k home s : Nat} {acc : Option Int} {c : Ct} {n M : Int} (ha : InO (M + 1000) acc) (hb : InO M (ib cs k c.b home)) (hc : -1000 ≤ c.n ∧ c.n ≤ 1000) (hn : -1000 ≤ n ∧ n ≤ 1000) (hM : M ≤ 1000000) :
    vl n (stI cs k home s acc c) = if jn s c = true ∧ NoW < vl c.n (ib cs k c.b home) ∧ vl n acc < n + vl c.n (ib cs k c.b home) then n + vl c.n (ib cs k c.b home) else vl n acc := by
  unfold stI
  cases hj : jn s c with
  | false => rw [if_neg (by simp), if_neg (by simp)]
  | true =>
    rw [if_pos rfl]
    cases hi : ib cs k c.b home with
    | none =>
      have h1 : ¬ NoW < vl c.n none := by show ¬ NoW < NoW; omega
      rw [if_neg (fun h => h1 h.2.1)]
      cases acc <;> rfl
    | some u =>
      have hu := hb u hi
      have h1 : NoW < vl c.n (some u) := by show NoW < c.n + u; unfold NoW; omega
      cases acc with
      | none =>
        have h2 : vl n none < n + vl c.n (some u) := by show NoW < n + (c.n + u); unfold NoW; omega
        rw [if_pos ⟨rfl, h1, h2⟩]
        rfl
      | some x =>
        show n + (if x < c.n + u then c.n + u else x) = _
        have hx := ha x rfl
        by_cases h2 : x < c.n + u
        · rw [if_pos h2, if_pos ⟨rfl, h1, by show n + x < n + (c.n + u); omega⟩]
          rfl
        · rw [if_neg h2, if_neg (fun h => by have h3 : n + x < n + (c.n + u) := h.2.2; omega)]
          rfl
theorem vl_gt0 {n sum M : Int} {o : Option Int} (ho : InO M o) (hn : -1000 ≤ n ∧ n ≤ 1000) (hM : M ≤ 1000000) : gt0 (sum + n) o = (decide (vl n o ≠ NoW) && decide (0 < sum + vl n o)) := by
  cases o with
  | none => simp [gt0, vl]
  | some v =>
    have hv := ho v rfl
    have h1 : vl n (some v) ≠ NoW := by show n + v ≠ NoW; unfold NoW; omega
    rw [decide_eq_true h1, Bool.true_and]
    show decide (0 < sum + n + v) = decide (0 < sum + (n + v))
    rw [Int.add_assoc]
theorem vl_pos {n : Int} {o : Option Int} : gt0 n o = decide (0 < vl n o) := by
  cases o with
  | none => show false = decide (0 < NoW); unfold NoW; rfl
  | some v => rfl
theorem jn_ct {c d : Cn} (hc : -1 ≤ c.b) (hd : -1 ≤ d.a) : jn (ctC c).b (ctC d) = joinB c d := by
  unfold jn joinB ctC
  simp only
  by_cases h1 : c.b = -1
  · simp [h1]
  · by_cases h2 : c.b = d.a
    · simp [h2]
    · have e1 : ¬ (c.b + 1).toNat = 0 := by omega
      have e2 : ¬ (c.b + 1).toNat = (d.a + 1).toNat := by omega
      simp [h1, h2, e1, e2]
/-- A row of the table: so many constraints and one more, each place the greatest sum of a way that begins there. -/
def rowT (cs : List Cn) (to : Cn) (k : Nat) : List Int := cs.map (fun c => vl c.n (ib (cs.map ctC) k (ctC c).b (ctC to).a))
theorem rowT_len (cs : List Cn) (to : Cn) (k : Nat) : (rowT cs to k).length = cs.length := by simp [rowT]
theorem row_first {cs : List Cn} {to c : Cn} (hc : -1 ≤ c.b) (hd : -1 ≤ to.a) : vl c.n (ib (cs.map ctC) 0 (ctC c).b (ctC to).a) = if joinB c to = true then c.n else NoW := by
  have e : ib (cs.map ctC) 0 (ctC c).b (ctC to).a = if jn (ctC c).b (ctC to) = true then some 0 else none := by
    unfold ib jn
    by_cases h : (ctC c).b = 0 ∨ (ctC c).b = (ctC to).a
    · rw [if_pos h, if_pos (by simpa using h)]
    · rw [if_neg h, if_neg (by simpa using h)]
  rw [e, jn_ct hc hd]
  split
  · show c.n + 0 = c.n; omega
  · rfl
end Go.Proofs.Yteedainidoldoaa
