/- Copying a row behind an empty one; what the specification's l3Spoil makes of a row of nodes, as a plain function. -/
import Derived.Test.YtjkkojefpecbfaaGreatTQ
import Derived.Test.YtjkkojefpecbfaaGreatDrC
import Derived.Test.YtjkkojefpecbfaaGreatTeB
namespace Go.Proofs.YtjkkojefpecbfaaGreat
open Go.ChangeShapes Go.WideShapes Go.ChangeAt Go.RowKit

/-- A copy of a row behind an empty one, in a plain region: the empty one itself for nothing. -/
theorem wpList_copy {w : World} {ops : Array Oper} {rest : List Oper} {o : Oper} {a : Act} {Q : Exit → Act → World → Prop} (hgd : o.guard = none) (s x : Operand) (t e : TypeId) (ho : o.op = .call { callee := .builtin .append, args := #[s, x], argTypes := #[t, t] }) (i : TypeInfo) (z : Value) (bytes : Nat) (ht : Tryz.prog.underlying t = some (.slice e)) (hi : Tryz.prog.info? e = some i) (hz : i.zero = some z) (hs1 : i.size = 1) (hby : i.bytes = bytes) (hzs : z.cells.size = 1)
    (g0 base : Nat) (hs : a.eval s = .slice (some ⟨g0, 0, none⟩) 0 0) (hown : w.ownsRow base e 1 (.slice (some ⟨g0, 0, none⟩) 0 0) 0 []) (ad : Option Addr) (n c : Nat) (vals : List Value) (hx : a.eval x = .slice ad n c) (hl : vals.length = n) (hsrc : 0 < n → ∃ b off, ad = some ⟨b, off, none⟩ ∧ ∀ j (h : j < vals.length), w.cell? ⟨b, off + j, none⟩ = some vals[j]) (h1 : ∀ u ∈ vals, u.oneCell' = true) (hn : n ≤ 1048576) (hb : bytes ≤ 1000) (hbase : base ≤ w.heap.size)
    (h : ∀ g cap w', w'.ownsRow base e 1 (.slice (some ⟨g, 0, none⟩) n cap) n vals → w.grownBy w' (some g0) → (g = g0 ∨ g = w.heap.size) → g < w'.heap.size → wpList Tryz.prog ops Q rest (a.put o.dst (.slice (some ⟨g, 0, none⟩) n cap)) w') : wpList Tryz.prog ops Q (o :: rest) a w := by
  by_cases h0 : n = 0
  · subst h0
    have hv : vals = [] := List.eq_nil_of_length_eq_zero hl
    subst hv
    refine wpList_plain hgd fun K hK => ?_
    have hr := run_append_none (P := Tryz.prog) (w := w) t o.type e i ht hi (some ⟨g0, 0, none⟩) 0 0 (Nat.le_refl _) ad c
    unfold Oper.wp execOp
    simp only [ho, resolve, invoke, builtin, Sem.run_bind, Sem.run_pure, Result.andThen_ok, List.map_toArray, List.map_cons, List.map_nil, hs, hx, hr]
    exact hK _ _ (h g0 0 w hown ((grown_of (Below.refl w.heap.size w)).but _) (.inl rfl) (hown.lt g0 rfl).2)
  · obtain ⟨b, off, rfl, hc⟩ := hsrc (by omega)
    refine wpList_append_lies _ hgd s x t ho base e i z 1 bytes ht hi hz hs1 hby hzs (by omega) (.slice (some ⟨g0, 0, none⟩) 0 0) 0 [] hs hown ⟨b, off, none⟩ n c vals hx (by omega) (fun j u hu => ?_) h1 (by omega) (by unfold maxLen; omega) ?_ hbase w.heap.size rfl (fun g cap w' q1 q2 q3 q4 => ?_)
    · have hj : j < vals.length := by
        rcases Nat.lt_or_ge j vals.length with h | h
        · exact h
        · rw [List.getElem?_eq_none h] at hu; cases hu
      rw [List.getElem?_eq_getElem hj] at hu
      rw [← Option.some.inj hu, show (Addr.add ⟨b, off, none⟩ j) = ⟨b, off + j, none⟩ by simp [Addr.add]]
      exact hc j hj
    · have : (0 + n) * bytes ≤ 1048576 * 1000 := Nat.mul_le_mul (by omega) hb
      omega
    · have e1 : 0 + n = n := Nat.zero_add _
      rw [e1] at q1 ⊢
      refine h g cap w' (by simpa using q1) q2 ?_ q4
      rcases q3 with q3 | q3
      · exact .inl (by simp [Value.ownBlock] at q3; omega)
      · exact .inr q3
def nums6 : List Int := [-1, 20000, 20001, 1, 1000000, 1000001]
def texts6 : List ByteArray := [⟨#[]⟩, ⟨#[97, 46, 98]⟩, ⟨#[120]⟩, ⟨#[57]⟩, ⟨#[97, 46, 46, 98]⟩, ⟨#[78, 97, 116]⟩]
/-- The node that is spoiled, at place p, by a byte v and the place of the reader behind it. -/
def spoilN (td : Td) (p v : Nat) (σ : Pl) : Td :=
  if v % 8 = 0 then ⟨((v / 8 % 11 : Nat) : Int), td.n, td.m, td.s, td.lv, td.kids⟩
  else if v % 8 = 1 then ⟨td.k, nums6.getD (v / 8 % 6) 0, td.m, td.s, td.lv, td.kids⟩
  else if v % 8 = 2 then ⟨td.k, td.n, ((v / 8 % 5 : Nat) : Int) - 1, td.s, td.lv, td.kids⟩
  else if v % 8 = 3 then ⟨td.k, td.n, td.m, texts6.getD (v / 8 % 6) ⟨#[]⟩, td.lv, td.kids⟩
  else if v % 8 = 4 then ⟨td.k, td.n, td.m, td.s, td.lv ++ [anyN σ], td.kids⟩
  else if v % 8 = 5 ∧ 0 < td.kids.length then ⟨td.k, td.n, td.m, td.s, td.lv, td.kids.set (v / 8 % td.kids.length) (td.kids.getD (v / 8 % td.kids.length) 0 + (((v / 64 : Nat) : Int) - 1))⟩
  else if v % 8 = 6 ∧ 0 < td.kids.length then ⟨td.k, td.n, td.m, td.s, td.lv, td.kids.tail⟩
  else ⟨td.k, td.n, td.m, td.s, td.lv, td.kids ++ [(p : Int) - 1]⟩
/-- The nodes with one spoiled. -/
def spoilT (ts : List Td) (ρ : Pl) : List Td := ts.set (ρ.v % ts.length) (spoilN (ts.getD (ρ.v % ts.length) ⟨0, 0, 0, ⟨#[]⟩, [], []⟩) (ρ.v % ts.length) ρ.n.v ρ.n.n)
theorem set6_far (xs : List Value) (p j : Nat) (a b c d e f : Value) (h : ∀ o, o < 6 → j ≠ p * 6 + o) : ((((((xs.set (p * 6) a).set (p * 6 + 1) b).set (p * 6 + 2) c).set (p * 6 + 3) d).set (p * 6 + 4) e).set (p * 6 + 5) f)[j]? = xs[j]? := by
  rw [List.getElem?_set_ne (fun q => h 5 (by omega) q.symm), List.getElem?_set_ne (fun q => h 4 (by omega) q.symm), List.getElem?_set_ne (fun q => h 3 (by omega) q.symm), List.getElem?_set_ne (fun q => h 2 (by omega) q.symm), List.getElem?_set_ne (fun q => h 1 (by omega) q.symm), List.getElem?_set_ne (show p * 6 ≠ j from fun q => h 0 (by omega) (by omega))]
theorem set6_at (xs : List Value) (p : Nat) (a b c d e f : Value) (h : p * 6 + 5 < xs.length) (o : Nat) (ho : o < 6) : ((((((xs.set (p * 6) a).set (p * 6 + 1) b).set (p * 6 + 2) c).set (p * 6 + 3) d).set (p * 6 + 4) e).set (p * 6 + 5) f)[p * 6 + o]? = [a, b, c, d, e, f][o]? := by
  rcases (show o = 0 ∨ o = 1 ∨ o = 2 ∨ o = 3 ∨ o = 4 ∨ o = 5 by omega) with rfl | rfl | rfl | rfl | rfl | rfl <;> simp [List.getElem?_set] <;> omega
theorem own_set6 {base e s g n cap : Nat} {w : World} {xs : List Value} (h : w.ownsRow base e s (.slice (some ⟨g, 0, none⟩) n cap) n xs) (i : Nat) (a b c d f k : Value) : ((((((w.setCell ⟨g, i, none⟩ a).setCell ⟨g, i + 1, none⟩ b).setCell ⟨g, i + 2, none⟩ c).setCell ⟨g, i + 3, none⟩ d).setCell ⟨g, i + 4, none⟩ f).setCell ⟨g, i + 5, none⟩ k).ownsRow base e s (.slice (some ⟨g, 0, none⟩) n cap) n ((((((xs.set i a).set (i + 1) b).set (i + 2) c).set (i + 3) d).set (i + 4) f).set (i + 5) k) := by
  have h1 := (h.stored i a).1
  have h2 := (h1.stored (i + 1) b).1
  have h3 := (h2.stored (i + 2) c).1
  have h4 := (h3.stored (i + 3) d).1
  have h5 := (h4.stored (i + 4) f).1
  exact (h5.stored (i + 5) k).1
theorem grown_set6 (w : World) (g i : Nat) (a b c d f k : Value) : w.grownBy ((((((w.setCell ⟨g, i, none⟩ a).setCell ⟨g, i + 1, none⟩ b).setCell ⟨g, i + 2, none⟩ c).setCell ⟨g, i + 3, none⟩ d).setCell ⟨g, i + 4, none⟩ f).setCell ⟨g, i + 5, none⟩ k) (some g) :=
  (((((grown_set w ⟨g, i, none⟩ a).trans (grown_set _ ⟨g, i + 1, none⟩ b)).trans (grown_set _ ⟨g, i + 2, none⟩ c)).trans (grown_set _ ⟨g, i + 3, none⟩ d)).trans (grown_set _ ⟨g, i + 4, none⟩ f)).trans (grown_set _ ⟨g, i + 5, none⟩ k)
end Go.Proofs.YtjkkojefpecbfaaGreat

/- What a node leads to lies in none of the blocks that may change. No program is walked here. -/
namespace Go.Proofs.YtjkkojefpecbfaaGreat
open Go.ChangeShapes Go.WideShapes Go.ChangeAt Go.RowKit

/-- A world with a block emptied. -/
def kill (w : World) (g : Nat) : World := { w with heap := w.heap.setIfInBounds g (.cells #[] 0 (0, 0)) }
theorem kill_ne (w : World) {g b : Nat} (h : b ≠ g) : (kill w g).heap[b]? = w.heap[b]? := by
  show (w.heap.setIfInBounds g _)[b]? = _
  rw [Array.getElem?_setIfInBounds, if_neg (fun e => h e.symm)]
theorem kill_at {w : World} {g : Nat} (hg : g < w.heap.size) (o : Nat) : (kill w g).cell? ⟨g, o, none⟩ = none := by
  have e : (kill w g).heap[g]? = some (.cells #[] 0 (0, 0)) := by
    show (w.heap.setIfInBounds g _)[g]? = _
    rw [Array.getElem?_setIfInBounds, if_pos rfl, if_pos hg]
  rw [Lib.cell_of_heap e]
  simp
end Go.Proofs.YtjkkojefpecbfaaGreat
