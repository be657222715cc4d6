/- Facts that the walk of the specification's l3Tree wants. -/
import Derived.Test.YtlhhdhmhncjilaaGreatTMkW
import Derived.Test.YtlhhdhmhncjilaaGreatTSpC
import Derived.Test.YtlhhdhmhncjilaaGreatTOk
namespace Go.Proofs.YtlhhdhmhncjilaaGreat
open Go.ChangeShapes Go.WideShapes Go.ChangeAt Go.RowKit

theorem Tryz.info35 : (Tryz.prog.info? 35).map (fun i => (i.zero, i.size, i.bytes)) = some (some (.pointer none), 1, 8) := by kernel_rfl
/-- What is kept of the trees that have no parent yet. -/
def zstep (zs : List Zs) (td : Td) : List Zs := zs.take (zs.length - td.kids.length) ++ [zmk td.k td.n (zs.drop (zs.length - td.kids.length))]
def zrun (ts : List Td) : Nat → List Zs
  | 0 => []
  | i + 1 => match ts[i]? with
    | some td => zstep (zrun ts i) td
    | none => zrun ts i
theorem zrun_succ (ts : List Td) (i : Nat) (h : i < ts.length) : zrun ts (i + 1) = zstep (zrun ts i) ts[i] := by simp [zrun, h]
theorem bad_len {st : List Int} {td : Td} (h : tkidsN td.k ≠ (td.kids.length : Int)) : tkidsN td.k < 0 ∨ (st.length : Int) < tkidsN td.k ∨ tfieldsB nameB td = false ∨ td.kids ≠ st.drop (st.length - (tkidsN td.k).toNat) := by
  by_cases h1 : tkidsN td.k < 0
  · exact .inl h1
  by_cases h2 : (st.length : Int) < tkidsN td.k
  · exact .inr (.inl h2)
  refine .inr (.inr (.inr fun e => h ?_))
  have := congrArg List.length e
  simp at this
  omega
theorem kind_of {k : Int} {n : Nat} (h : tkidsN k = (n : Int)) : 1 ≤ k ∧ k ≤ 9 := by
  by_cases h1 : k < 1 ∨ 9 < k
  · have := tkidsN_neg k h1; omega
  · omega
theorem num_of {td : Td} (h : tfieldsB nameB td = true) (hk : td.k = 1) : 0 ≤ td.n ∧ td.n ≤ 20000 := by
  unfold tfieldsB numB at h
  simp only [Bool.and_eq_true, decide_eq_true_eq] at h
  obtain ⟨⟨⟨⟨h1, h2⟩, _⟩, _⟩, _⟩ := h
  rw [hk] at h2
  exact ⟨h1, h2⟩
theorem ptr_snoc (ps : List Nat) (lo j : Nat) (h : lo + j < ps.length) : ((ps.drop lo).take j).map ptrV ++ [ptrV ps[lo + j]] = ((ps.drop lo).take (j + 1)).map ptrV := by
  have hd : j < (ps.drop lo).length := by simp; omega
  rw [List.take_succ_eq_append_getElem hd]
  simp
theorem drop_eq {ks st : List Int} {lo : Nat} (hl : ks.length + lo = st.length) (h : ∀ m (h1 : m < ks.length) (h2 : lo + m < st.length), ks[m] = st[lo + m]) : ks = st.drop lo := by
  apply List.ext_getElem
  · simp; omega
  · intro i h1 h2
    rw [h i h1 (by simp at h2; omega)]; simp
theorem drop_ne {ks st : List Int} {lo m : Nat} (h1 : m < ks.length) (h2 : lo + m < st.length) (h : ks[m] ≠ st[lo + m]) : ks ≠ st.drop lo := by
  intro e; apply h; subst e; simp
theorem sumZ_split (zs : List Zs) (lo : Nat) : sumZ (zs.take lo) + sumZ (zs.drop lo) = sumZ zs := by
  rw [← sumZ_append, List.take_append_drop]
theorem zok_next {zs : List Zs} {k n : Int} {lo : Nat} (h : ∀ z ∈ zs, ZOk z) (hn : k = 1 → 0 ≤ n ∧ n ≤ 20000) : ∀ z ∈ zs.take lo ++ [zmk k n (zs.drop lo)], ZOk z := by
  intro z hz
  rcases List.mem_append.1 hz with h1 | h1
  · exact h z (List.mem_of_mem_take h1)
  · simp at h1; subst h1; exact zmk_ok k n _ (fun z hz => h z (List.mem_of_mem_drop hz)) hn
theorem sum_next {zs : List Zs} {k n : Int} {lo : Nat} {q : Nat} (h : sumZ zs = (q : Int)) : sumZ (zs.take lo ++ [zmk k n (zs.drop lo)]) = ((q + 1 : Nat) : Int) := by
  have := sumZ_split zs lo
  rw [sumZ_append]; simp [sumZ, zmk]; omega
theorem sz_next {w w' : World} {ps : List Nat} {zs : List Zs} {lo : Nat} {g : Nat} {z : Zs} (hl : zs.length = ps.length) (h : ∀ j (h1 : j < ps.length) (h2 : j < zs.length), SzAt w ps[j] zs[j]) (hk : ∀ p z', SzAt w p z' → SzAt w' p z') (hg : SzAt w' g z) (hlo : lo ≤ ps.length) :
    ∀ j (h1 : j < (ps.take lo ++ [g]).length) (h2 : j < (zs.take lo ++ [z]).length), SzAt w' (ps.take lo ++ [g])[j] (zs.take lo ++ [z])[j] := by
  intro j h1 h2
  by_cases e : j < lo
  · rw [List.getElem_append_left (by simp; omega), List.getElem_append_left (by simp; omega), List.getElem_take, List.getElem_take]
    exact hk _ _ (h j (by omega) (by omega))
  · have h3 : j = lo := by simp at h1; omega
    subst h3
    rw [List.getElem_append_right (by simp; omega), List.getElem_append_right (by simp; omega)]
    simpa using hg
theorem SzAt.grown {w w' : World} {base g n cap : Nat} {e : TypeId} {xs : List Value} {p : Nat} {z : Zs} (h : SzAt w p z) (hr : w.ownsRow base e 1 (.slice (some ⟨g, 0, none⟩) n cap) n xs) (he : e ≠ 41) (hg : w.grownBy w' (some g)) : SzAt w' p z := by
  obtain ⟨k, n', m, s, lv, kv, h⟩ := h
  have hne : p ≠ g := rows_ne h hr (fun e2 => he e2.symm)
  exact ⟨k, n', m, s, lv, kv, World.ownsRow.kept h hg (.inr (by simp [Value.ownBlock]; exact hne))⟩
end Go.Proofs.YtlhhdhmhncjilaaGreat
