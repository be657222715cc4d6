/- For FnExactLevelPut: the specification's LevelPut and the program's answer alike, each in memory of its own; how many marks an answer takes. -/
import Derived.Test.YtnifepmaijfllaaMkF
import Derived.Test.YtnifepmaijfllaaPutK
namespace Go.Proofs.Ytnifepmaijfllaa
open Go.ChangeShapes Go.WideShapes Go.ChangeAt Go.RowKit

def rsOf : Option Tr → List Nd
  | none => []
  | some t => t.flat 0
def cOf (code : Int) : Option Tr → Int
  | none => code
  | some _ => 0
theorem LvOut.gen {B : Nat} {w' : World} {e : Ending} {r : Option Tr} {code : Int} (h : LvOut B w' e r code) : ∃ vs, e = .returned (.tuple #[.agg #[vs], .int .i64 (cOf code r)]) ∧ NdW B w' vs (rsOf r) := by
  cases r with
  | none => exact ⟨.slice none 0 0, h, ndW_nil _ _⟩
  | some t => obtain ⟨g, cap, h1, h2⟩ := h; exact ⟨_, h1, h2⟩
theorem kids_two : ∀ (t : Tr) (o : Nat), ∀ nd ∈ t.flat o, nd.kids.length ≤ 2
  | .leaf _ _, o => by intro nd h; simp [Tr.flat] at h; subst h; simp
  | .one _ _ a, o => by
    intro nd h
    simp only [Tr.flat, List.mem_append, List.mem_singleton] at h
    rcases h with h | h
    · exact kids_two a o nd h
    · subst h; simp
  | .two _ _ a b, o => by
    intro nd h
    simp only [Tr.flat, List.mem_append, List.mem_singleton] at h
    rcases h with (h | h) | h
    · exact kids_two a o nd h
    · exact kids_two b _ nd h
    · subst h; simp
theorem cost_two (ns : List Nd) (h : ∀ nd ∈ ns, nd.kids.length ≤ 2) : costN ns ≤ 4 * ns.length := by
  induction ns with
  | nil => simp [costN]
  | cons x a ih =>
    have h1 := h x (by simp)
    have h2 := ih (fun nd hn => h nd (by simp [hn]))
    simp only [costN, List.length_cons]; omega
theorem cost_sum (ns : List Nd) : costN ns ≤ 2 * ns.length + nsSum ns := by
  induction ns with
  | nil => simp [costN]
  | cons x a ih => simp only [costN, List.length_cons, nsSum, ndSize]; omega
theorem costLs_sum (ls : List (List Nd)) : costLs ls ≤ 2 * sumL lvSize ls := by
  induction ls with
  | nil => simp [costLs]
  | cons x a ih =>
    have := cost_sum x
    simp only [costLs, sumL, lvSize]
    omega
/-- Small enough. -/
def SmallR (rs : List Nd) : Prop := costN rs ≤ 300 ∧ rs.length ≤ 64 ∧ ∀ nd ∈ rs, nd.kids.length ≤ 1048576
theorem sized_small (t : Tr) : SmallR (rsOf (sizedR t)) := by
  unfold sizedR
  split
  · rename_i hf
    unfold fitsB at hf
    rw [decide_eq_true_eq] at hf
    have hk := kids_two t 0
    have hc := cost_two (t.flat 0) hk
    have hl := Tr.flat_len t 0
    exact ⟨by show costN (t.flat 0) ≤ 300; omega, by show (t.flat 0).length ≤ 64; omega, fun nd hn => by have := hk nd hn; omega⟩
  · exact ⟨by show 0 ≤ 300; omega, by show 0 ≤ 64; omega, fun nd hn => by simp [rsOf] at hn⟩
theorem none_small : SmallR [] := ⟨by show 0 ≤ 300; omega, by show 0 ≤ 64; omega, fun nd hn => by simp at hn⟩

theorem put_both (v vn vl : Value) (ns : List Nd) (names : List ByteArray) (ls : List (List Nd)) (w : World) (hns : NodesAt w v ns) (hsz : LvLens ns) (hn : StrsAt w vn names) (hv : LevsAt w vl ls) (hz : ∀ l ∈ ls, LvLens l) (hlen : ls.length ≤ 1048576) :
    Calls Try.prog 41 #[.agg #[v], vn, vl] w fun e w' => (∃ vs rs c, e = .returned (.tuple #[.agg #[vs], .int .i64 c]) ∧ NdW w.heap.size w' vs rs ∧ SmallR rs ∧ ∀ (u un ul : Value) (w2 : World), NodesAt w2 u ns → StrsAt w2 un names → LevsAt w2 ul ls → Calls Try.prog 42 #[.agg #[u], un, ul] w2 fun e2 w3 => (∃ vs2, e2 = .returned (.tuple #[.agg #[vs2], .int .i64 c]) ∧ NdW w2.heap.size w3 vs2 rs) ∧ Below w2.heap.size w2 w3) ∧ Below w.heap.size w w' := by
  refine (specPut_any v vn vl ns names ls w hns hsz hn hv hz hlen).mono ?_
  rintro e w1 ⟨hout, hb⟩
  refine ⟨?_, hb⟩
  rcases hout with ⟨hbad, h⟩ | ⟨hg, t, ts, hT, hTS, h⟩
  · obtain ⟨vs, h1, h2⟩ := h.gen
    exact ⟨vs, [], 1, h1, h2, none_small, fun u un ul w2 q1 q2 q3 => (implPut_bad u un ul ns names ls w2 q1 hsz q2 q3 hz hbad).mono fun e2 w3 ⟨q4, q5⟩ => ⟨q4.gen, q5⟩⟩
  · obtain ⟨vs, h1, h2⟩ := h.gen
    exact ⟨vs, _, _, h1, h2, sized_small _, fun u un ul w2 q1 q2 q3 => (implPut_ok u un ul ns names ls t ts w2 q1 hsz q2 q3 hz hg hT hTS).mono fun e2 w3 ⟨q4, q5⟩ => ⟨q4.gen, q5⟩⟩
theorem Chg.cell {lo hi : Nat} {w w' : World} (h : Chg lo hi w w') {b o : Nat} {v : Value} (hb : b < lo ∨ hi ≤ b) (hc : w.cell? ⟨b, o, none⟩ = some v) : w'.cell? ⟨b, o, none⟩ = some v := by
  rw [World.cell?_of_block (w := w) (a := ⟨b, o, none⟩) (h.out hb (lt_cell hc))]; exact hc
end Go.Proofs.Ytnifepmaijfllaa
