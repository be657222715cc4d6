/- What the store has of a valid term when its nodes were read: no program is walked here. -/
import Derived.Test.YtlhhdhmhncjilaaGreatStF
import Derived.Test.YtlhhdhmhncjilaaGreatTSamQ
import Derived.Test.YtlhhdhmhncjilaaGreatTFTree
import Derived.Test.YtlhhdhmhncjilaaGreatTTm
namespace Go.Proofs.YtlhhdhmhncjilaaGreat
open Go.ChangeShapes Go.WideShapes Go.ChangeAt Go.RowKit

theorem run_kinds (ns : List Nd) : ∀ k st, runTo ns k = some st → ∀ i (h : i < ns.length), i < k → 0 ≤ ns[i].k ∧ ns[i].k < 256
  | 0, _, _ => fun i _ h => by omega
  | k + 1, st, h => by
    unfold runTo at h
    split at h
    case h_2 => cases h
    rename_i st' nd h1 h2
    unfold stepN at h
    split at h
    · cases h
    rename_i hno
    simp only [not_or, Decidable.not_not] at hno
    obtain ⟨n1, _⟩ := hno
    intro i hi hik
    by_cases e : i = k
    · subst e
      rw [List.getElem?_eq_getElem hi] at h2
      have e2 := Option.some.inj h2
      rw [e2]
      have := (not_congr (kidsN_neg nd.k)).1 (by omega)
      omega
    · exact run_kinds ns k st' h1 i hi (by omega)
theorem lvl_kinds {ns : List Nd} (h : lvlB ns = true) : ∀ nd ∈ ns, 0 ≤ nd.k ∧ nd.k < 256 := by
  intro nd hnd
  obtain ⟨i, hi, rfl⟩ := List.getElem_of_mem hnd
  simp only [lvlB, Bool.and_eq_true] at h
  cases hr : runTo ns ns.length with
  | none => rw [hr] at h; simp at h
  | some st => exact run_kinds ns ns.length st hr i hi hi
theorem fields_run (F : Td → Bool) (ts : List Td) : ∀ k st, trun F ts k = some st → ∀ i (h : i < ts.length), i < k → F ts[i] = true
  | 0, _, _ => fun i _ h => by omega
  | k + 1, st, h => by
    unfold trun at h
    split at h
    case h_2 => cases h
    rename_i st' td h1 h2
    unfold tstep at h
    split at h
    · cases h
    rename_i hno
    simp only [not_or, Decidable.not_not] at hno
    obtain ⟨_, _, n3, _⟩ := hno
    intro i hi hik
    by_cases e : i = k
    · subst e
      rw [List.getElem?_eq_getElem hi] at h2
      have e2 := Option.some.inj h2
      rw [e2]
      simpa using n3
    · exact fields_run F ts k st' h1 i hi (by omega)
theorem fields_all {ts : List Td} (h : termB ts = true) : ∀ i (hi : i < ts.length), tfieldsB nameB ts[i] = true := by
  simp only [termB, termB', Bool.and_eq_true] at h
  cases hr : trun (tfieldsB nameB) ts ts.length with
  | none => rw [hr] at h; simp at h
  | some st => exact fun i hi => fields_run _ ts ts.length st hr i hi hi
theorem len_of {ts : List Td} (h : termB ts = true) : ts.length ≤ 20000 := by
  simp only [termB, termB', Bool.and_eq_true, decide_eq_true_eq] at h
  exact h.1
theorem lev_of {td : Td} (h : tfieldsB nameB td = true) : ∀ l ∈ td.lv, lvlB l = true := by
  simp only [tfieldsB, tlevB, Bool.and_eq_true, List.all_eq_true] at h
  exact h.2.2
theorem sz_le {ts : List Td} (h : termB ts = true) : ∀ i : Nat, i < ts.length → szI ts (i : Int) ≤ (i : Int) + 1 := by
  intro i
  induction i using Nat.strongRecOn with
  | ind i ih =>
    intro hi
    have ht := tiled_all h i hi
    have hs := ht.span
    cases hk : ts[i].kids with
    | nil =>
      rw [hk] at hs
      have e : (i : Int) + 1 - szI ts i = i := hs
      omega
    | cons c l =>
      rw [hk] at hs
      obtain ⟨c0, c1⟩ := ht.kin c (by rw [hk]; simp)
      have hc := ih c.toNat (by omega) (by omega)
      rw [show ((c.toNat : Nat) : Int) = c by omega] at hc
      have e : c - szI ts c + 1 = (i : Int) + 1 - szI ts i := hs.1
      omega
theorem spN_len (ns : List Nd) : (spN ns).length ≤ lvSize ns := by
  induction ns with
  | nil => simp [spN, lvSize, nsSum]
  | cons nd l ih =>
    have e : (spN (nd :: l)).length = (1 + nd.s.data.toList.length) + (spN l).length := by simp [spN]; omega
    rw [e]
    have e2 : nd.s.data.toList.length = nd.s.size := by simp
    unfold lvSize at ih ⊢
    simp only [nsSum, ndSize, List.length_cons]
    omega
theorem spell_len (ls : List (List Nd)) : (spell ls).length ≤ sumL lvSize ls := by
  induction ls with
  | nil => simp [spell, sumL]
  | cons l ls ih =>
    have e : (spell (l :: ls)).length = (spN l).length + (spell ls).length := by simp [spell]
    rw [e]
    have := spN_len l
    simp only [sumL]
    omega

/-- The key that a node of a term gets. -/
def keyOf (pt : Nat → Nat) (td : Td) : Nk := ⟨td.k, td.n, td.m, td.s, ⟨(spell td.lv).toArray⟩, td.kids[0]?.map (fun c => pt c.toNat), td.kids[1]?.map (fun c => pt c.toNat), td.kids[2]?.map (fun c => pt c.toNat)⟩
theorem keyOf_kid (pt : Nat → Nat) (td : Td) (h3 : td.kids.length ≤ 3) (j : Nat) : (keyOf pt td).kid j = td.kids[j]?.map (fun c => pt c.toNat) := by
  rcases (show j = 0 ∨ j = 1 ∨ j = 2 ∨ 3 ≤ j by omega) with rfl | rfl | rfl | h
  · rfl
  · rfl
  · rfl
  · rw [List.getElem?_eq_none (by omega)]
    obtain ⟨n, rfl⟩ : ∃ n, j = n + 3 := ⟨j - 3, by omega⟩
    rfl
theorem keyOf_same {pt pt' : Nat → Nat} {td : Td} (h : ∀ c ∈ td.kids, pt c.toNat = pt' c.toNat) : keyOf pt td = keyOf pt' td := by
  have e : ∀ j : Nat, td.kids[j]?.map (fun c => pt c.toNat) = td.kids[j]?.map (fun c => pt' c.toNat) := fun j => by
    cases hj : td.kids[j]? with
    | none => rfl
    | some c => simp only [Option.map_some]; rw [h c (List.mem_of_getElem? hj)]
  unfold keyOf
  rw [e 0, e 1, e 2]
/-- What the store has of the first nodes of a term. -/
def Rd (ts : List Td) (pt : Nat → Nat) (L : List (Nk × Nat × Nat)) (Z : Nat → Zs) (k : Nat) : Prop := ∀ i (h : i < ts.length), i < k → (∃ c, (keyOf pt ts[i], pt i, c) ∈ L) ∧ Z (pt i) = zI (Zt ts) (i : Int)
theorem Rd.key {ts : List Td} {pt : Nat → Nat} {L : List (Nk × Nat × Nat)} {Z : Nat → Zs} {k : Nat} (h : Rd ts pt L Z k) (hk : k < ts.length) (ht : Tiled ts k hk) : KeySt L (keyOf pt ts[k]) ∧ kidZ Z (keyOf pt ts[k]) = ts[k].kids.map (zI (Zt ts)) := by
  have ha := ht.arity
  have h3 : ts[k].kids.length ≤ 3 := by have := tkids_le ts[k].k; omega
  have hkid : ∀ j (hj : j < ts[k].kids.length), (keyOf pt ts[k]).kid j = some (pt (ts[k].kids[j]).toNat) := fun j hj => by
    rw [keyOf_kid pt ts[k] h3 j, List.getElem?_eq_getElem hj]; rfl
  have hin : ∀ j (hj : j < ts[k].kids.length), (∃ c, (keyOf pt (ts[(ts[k].kids[j]).toNat]'(by have := ht.kin _ (List.getElem_mem hj); omega)), pt (ts[k].kids[j]).toNat, c) ∈ L) ∧ Z (pt (ts[k].kids[j]).toNat) = zI (Zt ts) (ts[k].kids[j]) := fun j hj => by
    have hc := ht.kin _ (List.getElem_mem hj)
    have := h (ts[k].kids[j]).toNat (by omega) (by omega)
    rw [show (((ts[k].kids[j]).toNat : Nat) : Int) = ts[k].kids[j] by omega] at this
    exact this
  refine ⟨⟨by show 0 ≤ tkidsN ts[k].k; omega, fun j hj => ?_, fun j hj => ?_⟩, ?_⟩
  · have hj' : j < ts[k].kids.length := by have : (j : Int) < tkidsN ts[k].k := hj; omega
    obtain ⟨⟨c, hc⟩, _⟩ := hin j hj'
    exact ⟨_, hc, hkid j hj'⟩
  · have hj' : ts[k].kids.length ≤ j := by have : tkidsN ts[k].k ≤ (j : Int) := hj; omega
    rw [keyOf_kid pt ts[k] h3 j, List.getElem?_eq_none hj']; rfl
  · unfold kidZ
    have e : (tkidsN (keyOf pt ts[k]).k).toNat = ts[k].kids.length := by show (tkidsN ts[k].k).toNat = _; omega
    rw [e]
    apply List.ext_getElem
    · simp
    · intro j h1 h2
      have hj : j < ts[k].kids.length := by simpa using h2
      simp only [List.getElem_map, List.getElem_range]
      rw [hkid j hj]
      exact (hin j hj).2
theorem Rd.more {ts : List Td} {pt : Nat → Nat} {L L' : List (Nk × Nat × Nat)} {Z Z' : Nat → Zs} {k : Nat} (h : Rd ts pt L Z k) (hL : ∀ x ∈ L, x ∈ L' ∧ Z' x.2.1 = Z x.2.1) : Rd ts pt L' Z' k := fun i hi hk => by
  obtain ⟨⟨c, hc⟩, h2⟩ := h i hi hk
  obtain ⟨h3, h4⟩ := hL _ hc
  exact ⟨⟨c, h3⟩, h4.trans h2⟩
theorem Rd.next {base : Nat} {w : World} {Sb mb gb clock : Nat} {ts : List Td} {pt : Nat → Nat} {L : List (Nk × Nat × Nat)} {Z : Nat → Zs} {H : Nat → Bool} {k b : Nat} (hs : St base w Sb mb gb clock L Z H) (h : Rd ts pt L Z k) (hk : k < ts.length) (hT : ∀ i (hi : i < ts.length), Tiled ts i hi) (hb : ∃ c, (keyOf pt ts[k], b, c) ∈ L) : Rd ts (ptPut pt k b) L Z (k + 1) := by
  have hsame : ∀ i (hi : i < ts.length), i ≤ k → keyOf (ptPut pt k b) ts[i] = keyOf pt ts[i] := fun i hi hik => keyOf_same (fun c hc => by
    have := (hT i hi).kin c hc
    exact ptPut_lt (by omega))
  intro i hi hik
  rw [hsame i hi (by omega)]
  by_cases e : i = k
  · subst e
    rw [ptPut_at]
    refine ⟨hb, ?_⟩
    obtain ⟨c, hc⟩ := hb
    rw [(hs.ents _ hc).z, (hT i hi).eqz]
    show zmk _ _ (kidZ Z (keyOf pt ts[i])) = _
    rw [(h.key hi (hT i hi)).2]
    rfl
  · rw [ptPut_lt (by omega)]
    exact h i hi (by omega)
theorem St.row {base : Nat} {w w' : World} {Sb mb gb clock R : Nat} {cs : Array Value} {f : Nat × Nat} {L : List (Nk × Nat × Nat)} {Z : Nat → Zs} {H : Nat → Bool} (hs : St base w Sb mb gb clock L Z H) (hR : w.heap[R]? = some (.cells cs 43 f)) (hg : w.grownBy w' (some R)) (hb : base ≤ R) (hbase : base ≤ w.heap.size) : St base w' Sb mb gb clock L Z H := by
  have hB : Below base w w' := (Below.refl base w).grown hg hbase (fun k hk => by have := Option.some.inj hk; omega)
  have hne : ∀ k (o : Obj), w.heap[k]? = some o → (∀ cs f, o ≠ Obj.cells cs 43 f) → w'.heap[k]? = w.heap[k]? := fun k o hk ho => hg.block k (Array.getElem?_eq_some_iff.1 hk).1 (fun e => by
    have e := Option.some.inj e
    rw [e, hR] at hk
    exact ho cs f (Option.some.inj hk).symm)
  refine ⟨?_, ?_, fun x hx => ?_, hs.lows⟩
  · rw [hne Sb _ hs.sb (fun cs f h => by cases h)]; exact hs.sb
  · rw [hne mb _ hs.mp (fun cs f h => by cases h)]; exact hs.mp
  · obtain ⟨cs, h1⟩ := (hs.ents x hx).ptr
    exact (hs.ents x hx).same hB (hne _ _ h1 (fun cs f h => by cases h))
theorem row_heap {w : World} {base e size n R cap : Nat} {xs : List Value} (h : w.ownsRow base e size (.slice (some ⟨R, 0, none⟩) n cap) n xs) : base ≤ R ∧ ∃ cs, w.heap[R]? = some (.cells cs e (0, 0)) := by
  rcases h.2 with ⟨h', _⟩ | ⟨g, cap, cur, h', h3, h4, _⟩
  · cases h'
  · simp only [Value.slice.injEq, Option.some.injEq, Addr.mk.injEq, and_true, true_and] at h'
    obtain ⟨rfl, rfl⟩ := h'
    exact ⟨h3, cur, h4⟩
end Go.Proofs.YtlhhdhmhncjilaaGreat
