/- Plain facts for FnLevelPut: the number of a level in which levels were put is the number of the level, the parameters' values being those levels' numbers. No program is named here. -/
import Derived.Test.YtnifepmaijfllaaPutJ
import Derived.Test.YtnifepmaijfllaaValS
namespace Go.Proofs.Ytnifepmaijfllaa

/-- The value beside the first place of a name, or another. -/
def lk : List ByteArray → List Int → ByteArray → Int → Int
  | n :: ns, v :: vs, s, d => if n = s then v else lk ns vs s d
  | _, _, _, d => d
theorem lk_step (names : List ByteArray) (vs : List Int) (s : ByteArray) (d : Int) (j : Nat) (h1 : j < names.length) (h2 : j < vs.length) : lk (names.drop j) (vs.drop j) s d = if names[j] = s then vs[j] else lk (names.drop (j + 1)) (vs.drop (j + 1)) s d := by
  rw [List.drop_eq_getElem_cons h1, List.drop_eq_getElem_cons h2]; rfl
theorem atS_cons (n : ByteArray) (ns : List ByteArray) (s : ByteArray) : atS (n :: ns) s = if n = s then 0 else if 0 ≤ atS ns s then atS ns s + 1 else -1 := by
  unfold atS
  rw [List.findIdx?_cons]
  by_cases h : n = s
  · simp [h]
  · simp only [h, decide_false, if_false]
    cases ns.findIdx? (fun x => decide (x = s)) with
    | none => simp
    | some i => simp
theorem lk_at (f : ByteArray → Int) (s : ByteArray) (d : Int) (z : Tr) : ∀ (names : List ByteArray) (ts : List Tr), names.length = ts.length → lk names (ts.map (·.weigh f)) s d = if 0 ≤ atS names s then (ts.getD (atS names s).toNat z).weigh f else d
  | [], [], _ => by simp [lk, atS]
  | n :: ns, t :: ts, h => by
    have ih := lk_at f s d z ns ts (by simpa using h)
    rw [atS_cons]
    simp only [List.map_cons, lk]
    by_cases e : n = s
    · simp [e]
    · rw [if_neg e, ih, if_neg e]
      by_cases h0 : 0 ≤ atS ns s
      · rw [if_pos h0, if_pos h0, if_pos (by omega)]
        rw [show (atS ns s + 1).toNat = (atS ns s).toNat + 1 from by omega]
        simp
      · rw [if_neg h0, if_neg h0, if_neg (by omega)]
theorem weigh_put (f : ByteArray → Int) (names : List ByteArray) (ts : List Tr) : ∀ t : Tr, t.ok → (t.put names ts).weigh f = t.weigh (fun s => if 0 ≤ atS names s then (ts.getD (atS names s).toNat (.leaf 5 s)).weigh f else f s)
  | .leaf k s, h => by
    rcases h.1 with rfl | rfl
    · simp [Tr.put, Tr.weigh]
    · by_cases h0 : 0 ≤ atS names s <;> simp [Tr.put, Tr.weigh, h0]
  | .one k s a, h => by simp only [Tr.put, Tr.weigh]; rw [weigh_put f names ts a h.2.2]
  | .two k s a b, h => by simp only [Tr.put, Tr.weigh]; rw [weigh_put f names ts a h.2.2.1, weigh_put f names ts b h.2.2.2]
theorem value_true {t : Tr} {own names : List ByteArray} {vals : List Int} (h : (valueR t own names vals).2 = true) : (valueR t own names vals).1 = t.weigh (valAt names vals) ∧ names.length = vals.length ∧ own.all (hasB names) = true := by
  unfold valueR at h ⊢
  split at h
  · rename_i hc
    rw [if_pos hc]
    exact ⟨rfl, hc.1, hc.2.2⟩
  · cases h
/-- The values behind the loop, up to the name at place j and, of that one, up to the place k. -/
def Inner (all names : List ByteArray) (vs vals inner : List Int) (j k : Nat) : Prop :=
  inner.length = vals.length ∧ ∀ x (h1 : x < inner.length) (h2 : x < all.length) (h3 : x < vals.length), inner[x] = if x < k then lk (names.drop j) (vs.drop j) all[x] vals[x] else lk (names.drop (j + 1)) (vs.drop (j + 1)) all[x] vals[x]
theorem inner_start {all names : List ByteArray} {vs vals : List Int} {j : Nat} (h1 : names.length ≤ j + 1) : Inner all names vs vals vals j 0 := by
  refine ⟨rfl, fun x _ _ _ => ?_⟩
  rw [if_neg (by omega), List.drop_of_length_le (by omega)]; simp [lk]
theorem inner_full {all names : List ByteArray} {vs vals : List Int} {j k : Nat} (h1 : names.length ≤ j) : Inner all names vs vals vals j k := by
  refine ⟨rfl, fun x _ _ _ => ?_⟩
  rw [List.drop_of_length_le (by omega), List.drop_of_length_le (i := j + 1) (by omega)]; simp [lk]
theorem inner_yes {all names : List ByteArray} {vs vals inner : List Int} {j k : Nat} (h : Inner all names vs vals inner j k) (hk : k < all.length) (hj : j < names.length) (hv : j < vs.length) (he : names[j] = all[k]) : Inner all names vs vals (inner.set k vs[j]) j (k + 1) := by
  refine ⟨by simpa using h.1, fun x h1 h2 h3 => ?_⟩
  have h1' : x < inner.length := by simpa using h1
  by_cases e : x = k
  · subst e
    rw [List.getElem_set_self, if_pos (by omega), lk_step _ _ _ _ j hj hv, if_pos he]
  · rw [List.getElem_set_ne (by omega), h.2 x h1' h2 h3]
    by_cases e2 : x < k
    · rw [if_pos e2, if_pos (by omega)]
    · rw [if_neg e2, if_neg (by omega)]
theorem inner_no {all names : List ByteArray} {vs vals inner : List Int} {j k : Nat} (h : Inner all names vs vals inner j k) (hk : k < all.length) (hj : j < names.length) (hv : j < vs.length) (he : names[j] ≠ all[k]) : Inner all names vs vals inner j (k + 1) := by
  refine ⟨h.1, fun x h1 h2 h3 => ?_⟩
  rw [h.2 x h1 h2 h3]
  by_cases e : x = k
  · subst e
    rw [if_neg (by omega), if_pos (by omega), lk_step _ _ _ _ j hj hv, if_neg he]
  · by_cases e2 : x < k
    · rw [if_pos e2, if_pos (by omega)]
    · rw [if_neg e2, if_neg (by omega)]
theorem inner_next {all names : List ByteArray} {vs vals inner : List Int} {j : Nat} (h : Inner all names vs vals inner (j + 1) all.length) : Inner all names vs vals inner j 0 := by
  refine ⟨h.1, fun x h1 h2 h3 => ?_⟩
  rw [h.2 x h1 h2 h3, if_pos h2, if_neg (by omega)]
theorem put_value {ns : List Nd} {t : Tr} {ts : List Tr} {names all own : List ByteArray} {vals inner : List Int} (hT : OkTree ns t) (hl : names.length = ts.length)
    (hin : Inner all names (ts.map (·.weigh (valAt all vals))) vals inner 0 all.length) (p : (valueR (t.put names ts) own all vals).2 = true) (q : (valueR t (namesOf ns) all inner).2 = true) : (valueR (t.put names ts) own all vals).1 = (valueR t (namesOf ns) all inner).1 := by
  obtain ⟨p1, p2, _⟩ := value_true p
  obtain ⟨q1, q2, q3⟩ := value_true q
  rw [p1, q1, weigh_put _ _ _ _ hT.2.1]
  refine weigh_congr t hT.2.1 fun s hs => ?_
  have hown : hasB (namesOf ns) s = true := by
    have := names_params t [] s hs
    rwa [hT.2.2.1] at this
  have hall : hasB all s = true := by
    unfold hasB at hown
    rw [List.any_eq_true] at hown
    obtain ⟨x, hx, hxs⟩ := hown
    rw [decide_eq_true_eq] at hxs
    subst hxs
    exact List.all_eq_true.1 q3 x hx
  obtain ⟨k0, k1⟩ := atS_lt all s hall
  obtain ⟨k, hk⟩ : ∃ k : Nat, atS all s = k := ⟨(atS all s).toNat, by omega⟩
  have hka : k < all.length := by omega
  have hki : k < inner.length := by omega
  have hkv : k < vals.length := by omega
  have hget : all[k] = s := by
    unfold atS at hk
    split at hk
    · rename_i i hi
      rw [List.findIdx?_eq_some_iff_getElem] at hi
      obtain ⟨h1, h2, _⟩ := hi
      have : i = k := by omega
      subst this
      simpa using h2
    · omega
  have hv1 : valAt all inner s = inner[k] := by unfold valAt; rw [hk]; simp [hki]
  have hv2 : valAt all vals s = vals[k] := by unfold valAt; rw [hk]; simp [hkv]
  rw [hv1, hin.2 k hki hka hkv, if_pos hka]
  simp only [List.drop_zero]
  rw [lk_at _ _ _ (.leaf 5 s) _ _ hl, hget]
  by_cases h0 : 0 ≤ atS names s
  · rw [if_pos h0, if_pos h0]
  · rw [if_neg h0, if_neg h0, hv2]
theorem bytes_eq (a b : ByteArray) : (a.toList == b.toList) = decide (a = b) := by
  rw [ByteArray.toList_eq, ByteArray.toList_eq, Bool.eq_iff_iff, beq_iff_eq, decide_eq_true_eq]
  constructor
  · intro h
    cases a with | mk x => cases b with | mk y =>
    have : x = y := Array.toList_inj.1 h
    rw [this]
  · intro h; rw [h]
end Go.Proofs.Ytnifepmaijfllaa
