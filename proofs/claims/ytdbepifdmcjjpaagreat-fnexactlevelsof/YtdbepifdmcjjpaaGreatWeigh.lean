/- What the specification's l1Weigh answers at a tree: the number of the level for the values beside the names. -/
import Derived.Test.YtdbepifdmcjjpaaGreatFlat
namespace Go.Proofs.YtdbepifdmcjjpaaGreat
open Go.ChangeShapes Go.WideShapes Go.ChangeAt Go.RowKit

/-- The greater of two numbers, 0 for the kind 4 where the second is 0. -/
def joinN (k x y : Int) : Int := if k = 4 ∧ y = 0 then 0 else if y < x then x else y
def Tr.weigh (f : ByteArray → Int) : Tr → Int
  | .leaf k s => if k = 1 then 0 else f s
  | .one _ _ a => a.weigh f + 1
  | .two k _ a b => joinN k (a.weigh f) (b.weigh f)
def Tr.params : Tr → List ByteArray
  | .leaf k s => if k = 5 then [s] else []
  | .one _ _ a => a.params
  | .two _ _ a b => a.params ++ b.params
/-- The value beside the first place of a name. -/
def valAt (names : List ByteArray) (vals : List Int) (s : ByteArray) : Int := vals.getD (atS names s).toNat 0
theorem Tr.weigh_bd (f : ByteArray → Int) (M : Int) (hM : 0 ≤ M) (hf : ∀ s, 0 ≤ f s ∧ f s ≤ M) : ∀ t : Tr, 0 ≤ t.weigh f ∧ t.weigh f ≤ M + t.cnt
  | .leaf k s => by
    have := hf s
    simp only [Tr.weigh, Tr.cnt]; split <;> omega
  | .one k s a => by
    have := Tr.weigh_bd f M hM hf a
    simp only [Tr.weigh, Tr.cnt]; omega
  | .two k s a b => by
    have := Tr.weigh_bd f M hM hf a
    have := Tr.weigh_bd f M hM hf b
    simp only [Tr.weigh, Tr.cnt, joinN]; split
    · omega
    · split <;> omega
theorem valAt_bd (names : List ByteArray) (vals : List Int) (h : ∀ v ∈ vals, 0 ≤ v ∧ v ≤ 1000000) (s : ByteArray) : 0 ≤ valAt names vals s ∧ valAt names vals s ≤ 1000000 := by
  unfold valAt
  rw [List.getD_eq_getElem?_getD]
  cases e : vals[(atS names s).toNat]? with
  | none => simp
  | some v => simpa using h v (List.mem_of_getElem? e)

/-- What every walk below is told of the two rows. -/
structure Vals (w : World) (vn vv : Value) (names : List ByteArray) (vals : List Int) : Prop where
  n : StrsAt w vn names
  v : IntsAt w vv vals
  len : names.length = vals.length
  bd : ∀ x ∈ vals, 0 ≤ x ∧ x ≤ 1000000

theorem atS_lt (l : List ByteArray) (s : ByteArray) (h : hasB l s = true) : 0 ≤ atS l s ∧ atS l s < l.length := by
  have h1 := atS_mem l s
  rw [h] at h1
  have h0 : 0 ≤ atS l s := by simpa using h1
  refine ⟨h0, ?_⟩
  unfold atS at h0 ⊢
  split
  · rename_i i hi
    rw [List.findIdx?_eq_some_iff_getElem] at hi
    obtain ⟨hl, _⟩ := hi
    omega
  · rename_i hi; rw [hi] at h0; simp at h0

set_option maxHeartbeats 1000000 in
theorem weigh_leaf (k : Int) (s : ByteArray) (g B : Nat) (w : World) (vn vv : Value) (names : List ByteArray) (vals : List Int) (ht : TreeAt B w g (.leaf k s)) (hok : (Tr.leaf k s).ok) (hV : Vals w vn vv names vals) (hp : ∀ x ∈ (Tr.leaf k s).params, hasB names x = true) :
    Calls Tryz.prog 156 #[.pointer (some ⟨g, 0, none⟩), vn, vv] w fun e w' => e = .returned (.int .i64 ((Tr.leaf k s).weigh (valAt names vals))) ∧ w' = w := by
  obtain ⟨hg, hh⟩ := ht
  obtain ⟨c0, c1, c2, c3⟩ := node_cells hh
  have HN := hide hV.n
  have hlen := hV.len
  obtain ⟨an, cn, rfl, _, _, _⟩ := hV.n
  obtain ⟨av, cv, rfl, _, hcv, hvc⟩ := hV.v
  rcases hok.1 with rfl | rfl
  · clear hh hvc hlen
    go_enter Tryz.func156, Tryz.ntmps156
    go_wp2_with fail
    go_ret
    exact ⟨rfl, rfl⟩
  · have hs := hp s (by simp [Tr.params])
    obtain ⟨h0, h1⟩ := atS_lt names s hs
    obtain ⟨i, hi⟩ : ∃ i : Nat, atS names s = i := ⟨(atS names s).toNat, by omega⟩
    have hil : i < vals.length := by omega
    obtain ⟨b, off, rfl, hcell⟩ := hvc (by omega)
    have hc := hcell i hil
    have HI := hide hi
    have HW : Hid ((Tr.leaf 5 s).weigh (valAt names vals) = vals[i]) := by
      show _ = _
      simp [Tr.weigh, valAt, HI.out, hil]
    have hlt : (i : Int) < (vals.length : Int) := by omega
    clear hh hcell hlen hi h0 h1 hp
    rw [HW.out]
    go_enter Tryz.func156, Tryz.ntmps156
    go_wp2_with (go_at_call 129; refine (l1At_any _ names s _ HN.out).mono ?_; rintro e w' ⟨rfl, rfl⟩; rw [HI.out])
    go_ret
    exact ⟨rfl, rfl⟩

set_option maxHeartbeats 1000000 in
theorem weigh_one (k : Int) (s : ByteArray) (a : Tr) (iha : Hid (∀ (g B : Nat) (w : World) (vn vv : Value) (names : List ByteArray) (vals : List Int), TreeAt B w g a → (a).ok → Vals w vn vv names vals → (∀ x ∈ (a).params, hasB names x = true) → (a).cnt ≤ 1000 → Calls Tryz.prog 156 #[.pointer (some ⟨g, 0, none⟩), vn, vv] w fun e w' => e = .returned (.int .i64 ((a).weigh (valAt names vals))) ∧ w' = w)) (g B : Nat) (w : World) (vn vv : Value) (names : List ByteArray) (vals : List Int) (ht : TreeAt B w g (.one k s a)) (hok : (Tr.one k s a).ok) (hV : Vals w vn vv names vals) (hp : ∀ x ∈ (Tr.one k s a).params, hasB names x = true) (hc : (Tr.one k s a).cnt ≤ 1000) :
    Calls Tryz.prog 156 #[.pointer (some ⟨g, 0, none⟩), vn, vv] w fun e w' => e = .returned (.int .i64 ((Tr.one k s a).weigh (valAt names vals))) ∧ w' = w := by
  obtain ⟨hg, pa, hh, hta⟩ := ht
  obtain ⟨c0, c1, c2, c3⟩ := node_cells hh
  obtain ⟨rfl, _, hoa⟩ := hok
  have hbd := Tr.weigh_bd (valAt names vals) 1000000 (by omega) (valAt_bd names vals hV.bd) a
  have HC := hide (iha.out pa B w vn vv names vals hta hoa hV hp (by simp only [Tr.cnt] at hc; omega))
  simp only [Tr.cnt] at hc
  simp only [Tr.weigh]
  obtain ⟨an, cn, rfl, _, _, _⟩ := hV.n
  obtain ⟨av, cv, rfl, _, _, _⟩ := hV.v
  clear hh hta hV hp iha hoa
  generalize a.weigh (valAt names vals) = x at *
  obtain ⟨b1, b2⟩ := hbd
  have b3 : x ≤ 1001000 := by omega
  go_enter Tryz.func156, Tryz.ntmps156
  go_wp2_with (go_at_call 156; refine HC.out.mono ?_; rintro e w' ⟨rfl, rfl⟩)
  go_ret
  exact ⟨rfl, rfl⟩

set_option maxHeartbeats 2000000 in
theorem weigh_two (k : Int) (s : ByteArray) (a b : Tr) (iha : Hid (∀ (g B : Nat) (w : World) (vn vv : Value) (names : List ByteArray) (vals : List Int), TreeAt B w g a → (a).ok → Vals w vn vv names vals → (∀ x ∈ (a).params, hasB names x = true) → (a).cnt ≤ 1000 → Calls Tryz.prog 156 #[.pointer (some ⟨g, 0, none⟩), vn, vv] w fun e w' => e = .returned (.int .i64 ((a).weigh (valAt names vals))) ∧ w' = w)) (ihb : Hid (∀ (g B : Nat) (w : World) (vn vv : Value) (names : List ByteArray) (vals : List Int), TreeAt B w g b → (b).ok → Vals w vn vv names vals → (∀ x ∈ (b).params, hasB names x = true) → (b).cnt ≤ 1000 → Calls Tryz.prog 156 #[.pointer (some ⟨g, 0, none⟩), vn, vv] w fun e w' => e = .returned (.int .i64 ((b).weigh (valAt names vals))) ∧ w' = w)) (g B : Nat) (w : World) (vn vv : Value) (names : List ByteArray) (vals : List Int) (ht : TreeAt B w g (.two k s a b)) (hok : (Tr.two k s a b).ok) (hV : Vals w vn vv names vals) (hp : ∀ x ∈ (Tr.two k s a b).params, hasB names x = true) (hc : (Tr.two k s a b).cnt ≤ 1000) :
    Calls Tryz.prog 156 #[.pointer (some ⟨g, 0, none⟩), vn, vv] w fun e w' => e = .returned (.int .i64 ((Tr.two k s a b).weigh (valAt names vals))) ∧ w' = w := by
  obtain ⟨hg, pa, pb, hh, hta, htb⟩ := ht
  obtain ⟨c0, c1, c2, c3⟩ := node_cells hh
  obtain ⟨hk, _, hoa, hob⟩ := hok
  simp only [Tr.cnt] at hc
  have HCA := hide (iha.out pa B w vn vv names vals hta hoa hV (fun x hx => hp x (by simp [Tr.params, hx])) (by omega))
  have HCB := hide (ihb.out pb B w vn vv names vals htb hob hV (fun x hx => hp x (by simp [Tr.params, hx])) (by omega))
  simp only [Tr.weigh]
  obtain ⟨an, cn, rfl, _, _, _⟩ := hV.n
  obtain ⟨av, cv, rfl, _, _, _⟩ := hV.v
  clear hh hta htb hV hp iha ihb hoa hob
  generalize a.weigh (valAt names vals) = x at *
  generalize b.weigh (valAt names vals) = y at *
  have e1 : (k == 1) = false := by rw [beq_eq_false_iff_ne]; omega
  have e2 : (k == 2) = false := by rw [beq_eq_false_iff_ne]; omega
  have e5 : (k == 5) = false := by rw [beq_eq_false_iff_ne]; omega
  rcases hk with rfl | rfl
  · by_cases hxy : y < x
    · have HJ : Hid (joinN 3 x y = x) := by show _ = _; simp [joinN, hxy]
      rw [HJ.out]
      go_enter Tryz.func156, Tryz.ntmps156
      go_wp2_with fail
      refine HCA.out.mono ?_
      rintro e w' ⟨rfl, rfl⟩
      go_wp2_with fail
      refine HCB.out.mono ?_
      rintro e w' ⟨rfl, rfl⟩
      go_wp2_with fail
      go_ret
      exact ⟨rfl, rfl⟩
    · have HJ : Hid (joinN 3 x y = y) := by show _ = _; simp [joinN, hxy]
      rw [HJ.out]
      go_enter Tryz.func156, Tryz.ntmps156
      go_wp2_with fail
      refine HCA.out.mono ?_
      rintro e w' ⟨rfl, rfl⟩
      go_wp2_with fail
      refine HCB.out.mono ?_
      rintro e w' ⟨rfl, rfl⟩
      go_wp2_with fail
      go_ret
      exact ⟨rfl, rfl⟩
  · by_cases hy : y = 0
    · have HJ : Hid (joinN 4 x y = 0) := by show _ = _; simp [joinN, hy]
      have q : (y == 0) = true := beq_iff_eq.2 hy
      clear hy
      rw [HJ.out]
      go_enter Tryz.func156, Tryz.ntmps156
      go_wp2_with fail
      refine HCA.out.mono ?_
      rintro e w' ⟨rfl, rfl⟩
      go_wp2_with fail
      refine HCB.out.mono ?_
      rintro e w' ⟨rfl, rfl⟩
      go_wp2_with fail
      go_ret
      exact ⟨rfl, rfl⟩
    · have q : (y == 0) = false := beq_eq_false_iff_ne.2 hy
      by_cases hxy : y < x
      · have HJ : Hid (joinN 4 x y = x) := by show _ = _; simp [joinN, hxy, hy]
        clear hy
        rw [HJ.out]
        go_enter Tryz.func156, Tryz.ntmps156
        go_wp2_with fail
        refine HCA.out.mono ?_
        rintro e w' ⟨rfl, rfl⟩
        go_wp2_with fail
        refine HCB.out.mono ?_
        rintro e w' ⟨rfl, rfl⟩
        go_wp2_with fail
        go_ret
        exact ⟨rfl, rfl⟩
      · have HJ : Hid (joinN 4 x y = y) := by show _ = _; simp [joinN, hxy, hy]
        clear hy
        rw [HJ.out]
        go_enter Tryz.func156, Tryz.ntmps156
        go_wp2_with fail
        refine HCA.out.mono ?_
        rintro e w' ⟨rfl, rfl⟩
        go_wp2_with fail
        refine HCB.out.mono ?_
        rintro e w' ⟨rfl, rfl⟩
        go_wp2_with fail
        go_ret
        exact ⟨rfl, rfl⟩

theorem l1Weigh_any : ∀ (t : Tr), ∀ (g B : Nat) (w : World) (vn vv : Value) (names : List ByteArray) (vals : List Int), TreeAt B w g t → (t).ok → Vals w vn vv names vals → (∀ x ∈ (t).params, hasB names x = true) → (t).cnt ≤ 1000 → Calls Tryz.prog 156 #[.pointer (some ⟨g, 0, none⟩), vn, vv] w fun e w' => e = .returned (.int .i64 ((t).weigh (valAt names vals))) ∧ w' = w
  | .leaf k s => fun g B w vn vv names vals h1 h2 h3 h4 _ => weigh_leaf k s g B w vn vv names vals h1 h2 h3 h4
  | .one k s a => fun g B w vn vv names vals h1 h2 h3 h4 h5 => weigh_one k s a (l1Weigh_any a) g B w vn vv names vals h1 h2 h3 h4 h5
  | .two k s a b => fun g B w vn vv names vals h1 h2 h3 h4 h5 => weigh_two k s a b (l1Weigh_any a) (l1Weigh_any b) g B w vn vv names vals h1 h2 h3 h4 h5
end Go.Proofs.YtdbepifdmcjjpaaGreat
