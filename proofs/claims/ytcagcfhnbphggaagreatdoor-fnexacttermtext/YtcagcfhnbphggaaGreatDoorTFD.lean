/- The specification's tree of a term in memory, node by node: the node at place i of a term stands in block pt i; and how that is carried from world to world. -/
import Derived.Test.YtcagcfhnbphggaaGreatDoorTSpD
import Derived.Test.YtcagcfhnbphggaaGreatDoorTFB
namespace Go.Proofs.YtcagcfhnbphggaaGreatDoor
open Go.ChangeShapes Go.WideShapes Go.ChangeAt Go.RowKit

def zI (Z : List Zs) (c : Int) : Zs := Z.getD c.toNat ⟨0, 0, false⟩
/-- What is kept of each node, place by place. -/
def zAll (ts : List Td) : Nat → List Zs
  | 0 => []
  | i + 1 => match ts[i]? with
    | some td => zAll ts i ++ [zmk td.k td.n (td.kids.map (zI (zAll ts i)))]
    | none => zAll ts i
theorem zAll_succ (ts : List Td) (i : Nat) (h : i < ts.length) : zAll ts (i + 1) = zAll ts i ++ [zmk ts[i].k ts[i].n (ts[i].kids.map (zI (zAll ts i)))] := by simp [zAll, h]
theorem zAll_len (ts : List Td) : ∀ i, i ≤ ts.length → (zAll ts i).length = i
  | 0, _ => rfl
  | i + 1, h => by rw [zAll_succ ts i (by omega)]; simp [zAll_len ts i (by omega)]
theorem zAll_pre (ts : List Td) (i : Nat) (c : Nat) (hc : c < i) : ∀ j, i ≤ j → j ≤ ts.length → (zAll ts j)[c]? = (zAll ts i)[c]?
  | 0, h, _ => by omega
  | j + 1, h, hl => by
    by_cases e : i = j + 1
    · subst e; rfl
    · rw [zAll_succ ts j (by omega), List.getElem?_append_left (by rw [zAll_len ts j (by omega)]; omega)]
      exact zAll_pre ts i c hc j (by omega) (by omega)
def Zt (ts : List Td) : List Zs := zAll ts ts.length
theorem zI_pre (ts : List Td) (i : Nat) (hi : i ≤ ts.length) (c : Int) (h0 : 0 ≤ c) (hc : c < i) : zI (Zt ts) c = zI (zAll ts i) c := by
  unfold zI Zt
  rw [List.getD_eq_getElem?_getD, List.getD_eq_getElem?_getD, zAll_pre ts i c.toNat (by omega) ts.length hi (Nat.le_refl _)]
theorem zt_eq (ts : List Td) (i : Nat) (h : i < ts.length) (hk : ∀ c ∈ ts[i].kids, 0 ≤ c ∧ c < (i : Int)) : zI (Zt ts) (i : Int) = zmk ts[i].k ts[i].n (ts[i].kids.map (zI (Zt ts))) := by
  have h1 : zI (Zt ts) (i : Int) = zmk ts[i].k ts[i].n (ts[i].kids.map (zI (zAll ts i))) := by
    rw [zI_pre ts (i + 1) (by omega) i (by omega) (by omega)]
    show (zAll ts (i + 1)).getD (i : Int).toNat _ = _
    rw [zAll_succ ts i h, List.getD_eq_getElem?_getD, List.getElem?_append_right (by rw [zAll_len ts i (by omega)]; omega)]
    simp [zAll_len ts i (by omega)]
  rw [h1]
  congr 1
  apply List.map_congr_left
  intro c hc
  rw [zI_pre ts i (by omega) c (hk c hc).1 (hk c hc).2]
theorem trun_range (F : Td → Bool) (ts : List Td) : ∀ k st, trun F ts k = some st → ∀ c ∈ st, 0 ≤ c ∧ c < (k : Int)
  | 0, st, h => by simp [trun] at h; subst h; simp
  | k + 1, st, h => by
    unfold trun at h
    split at h
    · rename_i st' td h1 h2
      have ih := trun_range F ts k st' h1
      unfold tstep at h
      split at h
      · cases h
      · cases h
        intro c hc
        rcases List.mem_append.1 hc with h3 | h3
        · have := ih c (List.mem_of_mem_take h3); omega
        · simp at h3; omega
    · cases h

/-- A node of the tree: its block, the row of its kids, the row of its levels. -/
def FnAt (Q : Nat → Prop) (w : World) (p : Nat) (td : Td) (kp : List Nat) (z : Zs) : Prop :=
  ∃ lvv kdv, TnAt 0 w p (tnL td.k td.n td.m td.s lvv kdv z) ∧ PtrRowQ Q w kdv kp ∧ LevRowF Q w lvv td.lv
/-- What carries the tree from one world to another. -/
structure Carry (Q R : Nat → Prop) (w w' : World) : Prop where
  node : ∀ p xs, TnAt 0 w p xs → TnAt 0 w' p xs
  row : ∀ b, Q b → b < w.heap.size → R b ∧ ∀ o u, w.cell? ⟨b, o, none⟩ = some u → w'.cell? ⟨b, o, none⟩ = some u
  tree : ∀ ps us, TreesAt w ps us → TreesAt w' ps us
theorem Carry.trans {Q R S : Nat → Prop} {a b c : World} (h1 : Carry Q R a b) (h2 : Carry R S b c) (hs : a.heap.size ≤ b.heap.size) : Carry Q S a c :=
  ⟨fun p xs h => h2.node p xs (h1.node p xs h), fun k hk hl => by
    obtain ⟨h3, h4⟩ := h1.row k hk hl
    obtain ⟨h5, h6⟩ := h2.row k h3 (by omega)
    exact ⟨h5, fun o u hu => h6 o u (h4 o u hu)⟩, fun ps us h => h2.tree ps us (h1.tree ps us h)⟩
theorem Carry.below {Q : Nat → Prop} {w w' : World} (hb : Below w.heap.size w w') : Carry Q Q w w' :=
  ⟨fun _ _ h => h.keep hb, fun _ hk _ => ⟨hk, fun _ _ hu => keep_cell hb hu⟩, fun _ _ h => h.keep hb⟩
/-- An append to a row of another kind of cells that Q doesn't let by. -/
theorem Carry.grown {Q R : Nat → Prop} {w w' : World} {base g n cap : Nat} {e : TypeId} {xs : List Value} (hr : w.ownsRow base e 1 (.slice (some ⟨g, 0, none⟩) n cap) n xs) (h1 : e ≠ 66) (h2 : e ≠ 86) (hg : w.grownBy w' (some g)) (hQ : ∀ b, Q b → b < w.heap.size → b ≠ g ∧ R b) : Carry Q R w w' :=
  ⟨fun p ys h => World.ownsRow.kept h hg (.inr (by simp [Value.ownBlock]; exact rows_ne h hr (fun e2 => h1 e2.symm))),
   fun b hb hl => ⟨(hQ b hb hl).2, fun o u hu => by rw [hg.cell_far ⟨b, o, none⟩ hl (by simp; exact (hQ b hb hl).1)]; exact hu⟩,
   fun ps us h => ⟨h.1, fun j a1 a2 => ((h.2 j a1 a2).grown hg (fun k hk => by simp at hk; subst hk; obtain ⟨cs, hcs⟩ := row_tag hr; exact ⟨cs, e, h2, hcs⟩)).mono hg.size⟩⟩
theorem FnAt.to {Q R : Nat → Prop} {w w' : World} {p : Nat} {td : Td} {kp : List Nat} {z : Zs} (h : FnAt Q w p td kp z) (hc : Carry Q R w w') : FnAt R w' p td kp z := by
  obtain ⟨lvv, kdv, h1, h2, ps, us, h3, h4, h5, h6⟩ := h
  exact ⟨lvv, kdv, hc.node _ _ h1, h2.to hc.row, ps, us, h3, h4.to hc.row, ⟨hc.tree _ _ h5.1, h5.2⟩, h6⟩
theorem FnAt.sz {Q : Nat → Prop} {w : World} {p : Nat} {td : Td} {kp : List Nat} {z : Zs} (h : FnAt Q w p td kp z) : SzAt w p z := by
  obtain ⟨lvv, kdv, h1, _⟩ := h
  exact ⟨_, _, _, _, _, _, h1⟩

/-- The first k nodes of a term as nodes of the tree. -/
def Forest (Q : Nat → Prop) (w : World) (pt : Nat → Nat) (ts : List Td) (k : Nat) : Prop :=
  ∀ i (h : i < ts.length), i < k → FnAt Q w (pt i) ts[i] (ts[i].kids.map (fun c => pt c.toNat)) (zI (Zt ts) (i : Int))
theorem Forest.to {Q R : Nat → Prop} {w w' : World} {pt : Nat → Nat} {ts : List Td} {k : Nat} (h : Forest Q w pt ts k) (hc : Carry Q R w w') : Forest R w' pt ts k := fun i hi hk => (h i hi hk).to hc
def ptPut (pt : Nat → Nat) (k g : Nat) : Nat → Nat := fun i => if i = k then g else pt i
theorem ptPut_lt {pt : Nat → Nat} {k g i : Nat} (h : i < k) : ptPut pt k g i = pt i := by unfold ptPut; rw [if_neg (by omega)]
theorem ptPut_at (pt : Nat → Nat) (k g : Nat) : ptPut pt k g k = g := by unfold ptPut; rw [if_pos rfl]
theorem ptPut_map {pt : Nat → Nat} {k g : Nat} {st : List Int} (h : ∀ c ∈ st, 0 ≤ c ∧ c < (k : Int)) : st.map (fun c => ptPut pt k g c.toNat) = st.map (fun c => pt c.toNat) := by
  apply List.map_congr_left
  intro c hc
  exact ptPut_lt (by have := h c hc; omega)
theorem Forest.snoc {Q : Nat → Prop} {w : World} {pt : Nat → Nat} {ts : List Td} {k g : Nat} (h : Forest Q w pt ts k) (hk : k < ts.length) (hr : ∀ i (hi : i < ts.length), i ≤ k → ∀ c ∈ ts[i].kids, 0 ≤ c ∧ c < (i : Int)) (hg : FnAt Q w g ts[k] (ts[k].kids.map (fun c => pt c.toNat)) (zI (Zt ts) (k : Int))) : Forest Q w (ptPut pt k g) ts (k + 1) := by
  intro i hi hik
  have h1 : ts[i].kids.map (fun c => ptPut pt k g c.toNat) = ts[i].kids.map (fun c => pt c.toNat) := by
    apply List.map_congr_left
    intro c hc
    exact ptPut_lt (by have := hr i hi (by omega) c hc; omega)
  rw [h1]
  by_cases e : i = k
  · subst e; rw [ptPut_at]; exact hg
  · rw [ptPut_lt (by omega)]; exact h i hi (by omega)
end Go.Proofs.YtcagcfhnbphggaaGreatDoor
