/- What the specification's l1Tries answers: the rows of values that are tried, each in memory of its own. -/
import Derived.Test.YtnifepmaijfllaaSign
import Derived.Test.YtnifepmaijfllaaSpecL
namespace Go.Proofs.Ytnifepmaijfllaa
open Go.ChangeShapes Go.WideShapes Go.ChangeAt Go.RowKit

theorem i64_and1 (n : Int) : bits .and .i64 n 1 = n % 2 := by
  have h1 : (BitVec.ofInt 64 1).toNat = 2 ^ 1 - 1 := by decide
  have key : (BitVec.ofInt 64 n &&& BitVec.ofInt 64 1).toNat = (n % ((2 ^ 64 : Nat) : Int)).toNat % 2 ^ 1 := by
    rw [BitVec.toNat_and, BitVec.toNat_ofInt, h1, Nat.and_two_pow_sub_one_eq_mod]
  show IntKind.i64.wrap ((BitVec.ofInt 64 n &&& BitVec.ofInt 64 1).toNat : Nat) = n % 2
  rw [key, IntKind.wrap_i64]
  omega
theorem bit_of (set i : Nat) : bits .and .i64 ((set : Int) / 2 ^ i) 1 = if inSet set i then 1 else 0 := by
  rw [i64_and1]
  unfold inSet
  have e : ((set : Int) / 2 ^ i) = ((set / 2 ^ i : Nat) : Int) := by simp
  rw [e]
  by_cases h : set / 2 ^ i % 2 = 1
  · rw [decide_eq_true h, if_pos rfl]; omega
  · rw [decide_eq_false h]; simp; omega

/-- A row of numbers in a block that bears their type. -/
def TagRow (w : World) (v : Value) (ks : List Int) : Prop :=
  ∃ a cap, v = .slice a ks.length cap ∧ ks.length ≤ cap ∧ cap ≤ maxLen ∧
    (0 < ks.length → ∃ g cs, a = some ⟨g, 0, none⟩ ∧ w.heap[g]? = some (.cells cs 3 (0, 0)) ∧ ∀ j (h : j < ks.length), w.cell? ⟨g, j, none⟩ = some (.int .i64 ks[j]))
theorem TagRow.ints {w : World} {v : Value} {ks : List Int} (h : TagRow w v ks) : IntsAt w v ks := by
  obtain ⟨a, cap, hv, h1, h2, h3⟩ := h
  refine ⟨a, cap, hv, h1, h2, fun h0 => ?_⟩
  obtain ⟨g, cs, ha, _, hc⟩ := h3 h0
  exact ⟨g, 0, ha, fun j hj => by rw [Nat.zero_add]; exact hc j hj⟩
theorem TagRow.of {w w' : World} (h : ∀ (g : Nat) (cs : Array Value), w.heap[g]? = some (Obj.cells cs 3 (0, 0)) → w'.heap[g]? = w.heap[g]?) {v : Value} {ks : List Int} (ht : TagRow w v ks) : TagRow w' v ks := by
  obtain ⟨a, cap, hv, h1, h2, h3⟩ := ht
  refine ⟨a, cap, hv, h1, h2, fun h0 => ?_⟩
  obtain ⟨g, cs, ha, hg, hc⟩ := h3 h0
  have e := h g cs hg
  refine ⟨g, cs, ha, by rw [e]; exact hg, fun j hj => ?_⟩
  rw [World.cell?_of_block (a := ⟨g, j, none⟩) e]; exact hc j hj
theorem TagRow.keep {w w' : World} (hb : Below w.heap.size w w') {v : Value} {ks : List Int} (ht : TagRow w v ks) : TagRow w' v ks :=
  ht.of (fun g _ hg => hb.block g (Array.getElem?_eq_some_iff.1 hg).1)
theorem row_own_tag {w : World} {base : Nat} {e : TypeId} {size : Nat} {v : Value} {n : Nat} {xs : List Value} (h : w.ownsRow base e size v n xs) {k : Nat} (hk : v.ownBlock = some k) : ∃ cs, w.heap[k]? = some (.cells cs e (0, 0)) := by
  rcases h.2 with ⟨rfl, _⟩ | ⟨g, cap, cur, rfl, _, hg, _⟩
  · simp [Value.ownBlock] at hk
  · simp [Value.ownBlock] at hk
    subst hk
    exact ⟨cur, hg⟩
theorem TagRow.grown {w w' : World} {base : Nat} {vo : Value} {n : Nat} {xs : List Value} (hrow : w.ownsRow base 35 1 vo n xs) (hg : w.grownBy w' vo.ownBlock) {v : Value} {ks : List Int} (ht : TagRow w v ks) : TagRow w' v ks :=
  ht.of (fun g cs hgc => hg.block g (Array.getElem?_eq_some_iff.1 hgc).1 (fun e => by
    obtain ⟨cs', h'⟩ := row_own_tag hrow e.symm
    rw [hgc] at h'
    simp at h'))
theorem tag_of_row {w : World} {base : Nat} {v : Value} {ks : List Int} (h : w.ownsRow base 3 1 v ks.length (ks.map (Value.int .i64))) : TagRow w v ks := by
  rcases h.2 with ⟨rfl, h0⟩ | ⟨g, cap, cur, rfl, _, hg, hnc, hcm, hcs, htake⟩
  · exact ⟨none, 0, by rw [h0], by omega, by unfold maxLen; omega, fun h => by omega⟩
  · exact ⟨_, cap, rfl, hnc, hcm, fun _ => ⟨g, cur, rfl, hg, fun j hj => by rw [h.cellAt j (by omega)]; simp [hj]⟩⟩
/-- The rows us are those. -/
def RowsTag (w : World) (us : List Value) (rows : List (List Int)) : Prop := us.length = rows.length ∧ ∀ (j : Nat) u ks, us[j]? = some u → rows[j]? = some ks → TagRow w u ks
theorem RowsTag.map {w w' : World} {us : List Value} {rows : List (List Int)} (h : RowsTag w us rows) (hm : ∀ v ks, TagRow w v ks → TagRow w' v ks) : RowsTag w' us rows :=
  ⟨h.1, fun j u ks h1 h2 => hm _ _ (h.2 j u ks h1 h2)⟩
theorem RowsTag.snoc {w : World} {us : List Value} {rows : List (List Int)} (h : RowsTag w us rows) {u : Value} {ks : List Int} (ht : TagRow w u ks) : RowsTag w (us ++ [u]) (rows ++ [ks]) := by
  refine ⟨by simp [h.1], fun j u' ks' h1 h2 => ?_⟩
  rcases snoc_cases h1 with ⟨h1, _⟩ | ⟨hj, rfl⟩
  · rcases snoc_cases h2 with ⟨h2, _⟩ | ⟨hj2, _⟩
    · exact h.2 j u' ks' h1 h2
    · have := (List.getElem?_eq_some_iff.1 h1).1; have := h.1; omega
  · rcases snoc_cases h2 with ⟨h2, _⟩ | ⟨_, rfl⟩
    · have := (List.getElem?_eq_some_iff.1 h2).1; have := h.1; omega
    · exact ht
def RowsAt (w : World) (v : Value) (rows : List (List Int)) : Prop :=
  ∃ a cap, v = .slice a rows.length cap ∧ rows.length ≤ cap ∧ cap ≤ maxLen ∧
    (0 < rows.length → ∃ b, a = some ⟨b, 0, none⟩ ∧ ∀ j (h : j < rows.length), ∃ u, w.cell? ⟨b, j, none⟩ = some u ∧ TagRow w u rows[j])
theorem rows_at {w : World} {base : Nat} {v : Value} {us : List Value} {rows : List (List Int)} (h : w.ownsRow base 35 1 v us.length us) (hr : RowsTag w us rows) : RowsAt w v rows := by
  have hl := hr.1
  rcases h.2 with ⟨rfl, h0⟩ | ⟨g, cap, cur, rfl, _, hg, hnc, hcm, hcs, htake⟩
  · exact ⟨none, 0, by rw [← hl, h0], by omega, by unfold maxLen; omega, fun h => by omega⟩
  · refine ⟨_, cap, by rw [hl], by omega, hcm, fun _ => ⟨g, rfl, fun j hj => ⟨us[j]'(by omega), ?_, ?_⟩⟩⟩
    · rw [h.cellAt j (by omega), List.getElem?_eq_getElem (by omega)]
    · exact hr.2 j _ _ (List.getElem?_eq_getElem (by omega)) (List.getElem?_eq_getElem hj)

theorem triesTo_len (n set b : Nat) : (triesTo n set b).length ≤ b := by
  induction b with
  | zero => simp [triesTo]
  | succ b ih => simp only [triesTo, List.length_append]; split <;> simp <;> omega
theorem triesOf_len (n s : Nat) : (triesOf n s).length ≤ s * (n + 1) := by
  induction s with
  | zero => simp [triesOf]
  | succ s ih =>
    have := triesTo_len n s (n + 1)
    simp only [triesOf, List.length_append, Nat.succ_mul]; omega
theorem pow_le (n : Nat) (hn : n ≤ 12) : 2 ^ n ≤ 4096 := Nat.pow_le_pow_right (by omega) hn
theorem wrap_pow (n : Nat) (hn : n ≤ 12) : wrap64 (2 ^ n) = ((2 ^ n : Nat) : Int) := by
  have : n = 0 ∨ n = 1 ∨ n = 2 ∨ n = 3 ∨ n = 4 ∨ n = 5 ∨ n = 6 ∨ n = 7 ∨ n = 8 ∨ n = 9 ∨ n = 10 ∨ n = 11 ∨ n = 12 := by omega
  rcases this with rfl | rfl | rfl | rfl | rfl | rfl | rfl | rfl | rfl | rfl | rfl | rfl | rfl <;> (unfold wrap64; decide)
theorem Try.info35 : (Try.prog.info? 35).map (fun i => (i.zero, i.size, i.bytes)) = some (some (.slice none 0 0), 1, 24) := by kernel_rfl

/-- The first i values of a row. -/
def rowTo (set big : Nat) : Nat → List Int
  | 0 => []
  | i + 1 => rowTo set big i ++ [tryAt set big i]
theorem rowTo_eq (set big i : Nat) : rowTo set big i = tryRow i set big := by
  induction i with
  | zero => rfl
  | succ i ih => simp only [rowTo, ih, tryRow, List.range_succ, List.map_append, List.map_cons, List.map_nil]
theorem rowTo_len (set big i : Nat) : (rowTo set big i).length = i := by rw [rowTo_eq, tryRow_len]
end Go.Proofs.Ytnifepmaijfllaa
