/- What the specification's l1Put answers: the tree with trees put for parameters, in new memory where it differs. For FnExactLevelPut. -/
import Derived.Test.YtgomimhelgjddaaGreatFew
import Derived.Test.YtgomimhelgjddaaGreatTriesW
import Derived.Test.YtgomimhelgjddaaGreatWeigh
import Derived.Test.YtgomimhelgjddaaGreatDec
import Derived.Test.YtgomimhelgjddaaGreatSign
namespace Go.Proofs.YtgomimhelgjddaaGreat
open Go.ChangeShapes Go.WideShapes Go.ChangeAt Go.RowKit

/-- A row of pointers to trees. -/
def PtrsAt (w : World) (v : Value) (ps : List Nat) : Prop :=
  ∃ a cap, v = .slice a ps.length cap ∧ ps.length ≤ cap ∧ cap ≤ maxLen ∧ (0 < ps.length → ∃ b off, a = some ⟨b, off, none⟩ ∧ ∀ j (h : j < ps.length), w.cell? ⟨b, off + j, none⟩ = some (ptrV ps[j]))
theorem PtrsAt.keep {w w' : World} {v : Value} {ps : List Nat} (h : PtrsAt w v ps) (hb : Below w.heap.size w w') : PtrsAt w' v ps := by
  obtain ⟨a, cap, hv, h1, h2, h3⟩ := h
  refine ⟨a, cap, hv, h1, h2, fun h0 => ?_⟩
  obtain ⟨b, off, ha, hc⟩ := h3 h0
  exact ⟨b, off, ha, fun j h => keep_cell hb (hc j h)⟩
/-- Names and the trees that are put for them. -/
structure PutV (w : World) (vn vl : Value) (names : List ByteArray) (ps : List Nat) (ts : List Tr) : Prop where
  n : StrsAt w vn names
  l : PtrsAt w vl ps
  len : names.length = ps.length
  cnt : ps.length = ts.length
  tr : ∀ j (h : j < ps.length) (h2 : j < ts.length), TreeAt w.heap.size w ps[j] ts[j]
theorem PutV.keep {w w' : World} {vn vl : Value} {names : List ByteArray} {ps : List Nat} {ts : List Tr} (h : PutV w vn vl names ps ts) (hb : Below w.heap.size w w') : PutV w' vn vl names ps ts :=
  ⟨h.n.keep hb, h.l.keep hb, h.len, h.cnt, fun j h1 h2 => ((h.tr j h1 h2).keep hb).mono hb.size⟩
def Tr.put (names : List ByteArray) (ts : List Tr) : Tr → Tr
  | .leaf k s => if k = 5 ∧ 0 ≤ atS names s then ts.getD (atS names s).toNat (.leaf k s) else .leaf k s
  | .one k _ a => .one k ⟨#[]⟩ (a.put names ts)
  | .two k _ a b => .two k ⟨#[]⟩ (a.put names ts) (b.put names ts)
end Go.Proofs.YtgomimhelgjddaaGreat

/- What the specification's l1Fits answers at a tree: at most 64 nodes, at most 6 parameters. For FnExactLevelPut. -/
namespace Go.Proofs.YtgomimhelgjddaaGreat
open Go.ChangeShapes Go.WideShapes Go.ChangeAt Go.RowKit

theorem Tr.sz_cnt : ∀ t : Tr, t.sz = min 1000 t.cnt
  | .leaf _ _ => by simp [Tr.sz, Tr.cnt]
  | .one _ _ a => by simp only [Tr.sz, Tr.cnt, Tr.sz_cnt a]; omega
  | .two _ _ a b => by simp only [Tr.sz, Tr.cnt, Tr.sz_cnt a, Tr.sz_cnt b]; omega
theorem TreeAt.size {B : Nat} {w : World} {g : Nat} : ∀ {t : Tr}, TreeAt B w g t → w.cell? ⟨g, 4, none⟩ = some (.int .i64 t.sz)
  | .leaf k s, h => by rw [cell_of_row w g 4 _ _ _ h.2]; rfl
  | .one k s a, h => by obtain ⟨_, pa, h2, _⟩ := h; rw [cell_of_row w g 4 _ _ _ h2]; rfl
  | .two k s a b, h => by obtain ⟨_, pa, pb, h2, _⟩ := h; rw [cell_of_row w g 4 _ _ _ h2]; rfl
def fitsB (t : Tr) : Bool := decide (t.cnt ≤ 64 ∧ (t.names []).length ≤ 6)

set_option maxRecDepth 10000 in
set_option maxHeartbeats 2000000 in
theorem l1Fits_any (t : Tr) (g : Nat) (w : World) (h : TreeAt w.heap.size w g t) :
    Calls Tryz.prog 71 #[.pointer (some ⟨g, 0, none⟩)] w fun e w' => e = .returned (.bool (fitsB t)) ∧ Below w.heap.size w w' := by
  have HT := hide h
  have c4 := h.size
  have hsz := Tr.sz_cnt t
  have hst := World.ownsRow_lit (base := w.heap.size) (e := 9) (size := 1) w #[] 0 (Nat.le_refl _) (by unfold maxLen; omega) rfl
  have HST := hide hst
  clear hst h
  by_cases hc : t.cnt ≤ 64
  · have hle : (t.sz : Int) ≤ 64 := by omega
    have HF : Hid (decide (((t.names []).length : Int) ≤ 6) = fitsB t) := by
      show _ = _
      unfold fitsB
      rw [decide_eq_decide]
      constructor
      · intro q; exact ⟨hc, by omega⟩
      · intro q; omega
    have HC := hide hc
    clear hc hsz
    go_enter Tryz.func71, Tryz.ntmps71
    go_wp2_with fail
    refine (l1Names_any t g _ _ [] w.heap.size (HT.out.keep (bel_alloc (Below.refl _ _) _)) HST.out (by simp) (by have := HC.out; simp; omega)).mono ?_
    rintro e w1 ⟨vn1, rfl, hown1, hb1⟩
    have hbel1 : Hid (Below w.heap.size w w1) := (bel_alloc (Below.refl w.heap.size w) _).trans hb1
    obtain ⟨na1, nc1, rfl⟩ := row_form hown1
    clear hown1 hb1 HST c4 hle
    go_wp2_with fail
    go_ret
    exact ⟨ret_bool HF.out, hbel1.out⟩
  · have hle : ¬ (t.sz : Int) ≤ 64 := by omega
    have HF : Hid (false = fitsB t) := by
      show _ = _
      unfold fitsB
      rw [eq_comm, decide_eq_false_iff_not]
      exact fun q => hc q.1
    clear hc hsz
    go_enter Tryz.func71, Tryz.ntmps71
    go_wp2_with fail
    go_ret
    exact ⟨ret_bool HF.out, Below.refl _ _⟩
end Go.Proofs.YtgomimhelgjddaaGreat

/- Plain facts for LevelPut: trees put for the parameters of the program's trees, the nodes that a tree is written as, and when these are a level. No program is named here. -/
namespace Go.Proofs.YtgomimhelgjddaaGreat

/-- So many more around. -/
def sAroundN (n : Nat) : It → It
  | .succ m x => .succ (m + n) x
  | x => .succ n x
def It.put (f : ByteArray → It) : It → It
  | .zero => .zero
  | .succ n x => sAroundN n (x.put f)
  | .max a b => .max (a.put f) (b.put f)
  | .imax a b => .imax (a.put f) (b.put f)
  | .param s => f s
theorem cnt_aroundN (n : Nat) (x : It) : (sAroundN n x).cnt = x.cnt + n := by
  cases x <;> simp [sAroundN, It.cnt] <;> omega
theorem around_aroundN (n : Nat) (x : It) : sAround (sAroundN n x) = sAroundN (n + 1) x := by
  cases x <;> simp [sAroundN, sAround] <;> omega
theorem put_around (f : ByteArray → It) (x : It) : (sAround x).put f = sAround (x.put f) := by
  cases x with
  | succ n y => show sAroundN (n + 1) (y.put f) = sAround (sAroundN n (y.put f)); rw [around_aroundN]
  | zero => rfl
  | max a b => rfl
  | imax a b => rfl
  | param s => simp only [sAround, It.put]; cases f s <;> simp [sAroundN]
def putF (names : List ByteArray) (ts : List Tr) (s : ByteArray) : It :=
  if 0 ≤ atS names s then (ts.getD (atS names s).toNat (.leaf 5 s)).it else .param s
theorem it_put (names : List ByteArray) (ts : List Tr) : ∀ t : Tr, t.ok → (t.put names ts).it = t.it.put (putF names ts)
  | .leaf k s, h => by
    rcases h.1 with rfl | rfl
    · simp [Tr.put, Tr.it, It.put]
    · simp only [Tr.put, Tr.it]
      by_cases h0 : 0 ≤ atS names s
      · rw [if_pos ⟨trivial, h0⟩]; simp [It.put, putF, h0]
      · rw [if_neg (by omega)]; simp [It.put, putF, h0, Tr.it]
  | .one k s a, h => by simp only [Tr.put, Tr.it]; rw [put_around, it_put names ts a h.2.2]
  | .two k s a b, h => by
    have ha := it_put names ts a h.2.2.1
    have hb := it_put names ts b h.2.2.2
    rcases h.1 with rfl | rfl
    · simp [Tr.put, Tr.it, It.put, ha, hb]
    · simp [Tr.put, Tr.it, It.put, ha, hb]
theorem fields_empty {k : Int} (h : k ≠ 5) : fieldsB ⟨k, ⟨#[]⟩, []⟩ = true := by
  simp only [fieldsB, if_neg h]
  rw [ByteArray.toList_eq]; rfl
theorem put_ok (names : List ByteArray) (ts : List Tr) (hts : ∀ t ∈ ts, t.ok) : ∀ t : Tr, t.ok → (t.put names ts).ok
  | .leaf k s, h => by
    simp only [Tr.put]
    split
    · rename_i hk
      by_cases hl : (atS names s).toNat < ts.length
      · rw [show ts.getD (atS names s).toNat (.leaf k s) = ts[(atS names s).toNat] by simp [hl]]; exact hts _ (List.getElem_mem hl)
      · rw [show ts.getD (atS names s).toNat (.leaf k s) = .leaf k s by rw [List.getD_eq_getElem?_getD, List.getElem?_eq_none (by omega)]; rfl]; exact h
    · exact h
  | .one k s a, h => ⟨h.1, fields_empty (by have := h.1; omega), put_ok names ts hts a h.2.2⟩
  | .two k s a b, h => ⟨h.1, fields_empty (by have := h.1; omega), put_ok names ts hts a h.2.2.1, put_ok names ts hts b h.2.2.2⟩

theorem empty_of {s : ByteArray} (h : s.toList.isEmpty = true) : s = ⟨#[]⟩ := by
  rw [ByteArray.toList_eq] at h
  have h := List.isEmpty_iff.1 h
  cases s with
  | mk d => cases d with
    | mk l => simp only at h; rw [h]
/-- The nodes of so many more around, the first at place p. -/
def sNodes : Nat → Nat → List Nd
  | 0, _ => []
  | n + 1, p => sNodes n p ++ [⟨2, ⟨#[]⟩, [((p + n - 1 : Nat) : Int)]⟩]
theorem sNodes_len (n p : Nat) : (sNodes n p).length = n := by
  induction n with
  | zero => rfl
  | succ n ih => simp [sNodes, ih]
/-- The nodes that a tree is written as, the first at place o. -/
def It.flat : Nat → It → List Nd
  | _, .zero => [⟨1, ⟨#[]⟩, []⟩]
  | o, .succ n x => x.flat o ++ sNodes n (o + x.cnt)
  | o, .max a b => a.flat o ++ b.flat (o + a.cnt) ++ [⟨3, ⟨#[]⟩, [((o + a.cnt - 1 : Nat) : Int), ((o + a.cnt + b.cnt - 1 : Nat) : Int)]⟩]
  | o, .imax a b => a.flat o ++ b.flat (o + a.cnt) ++ [⟨4, ⟨#[]⟩, [((o + a.cnt - 1 : Nat) : Int), ((o + a.cnt + b.cnt - 1 : Nat) : Int)]⟩]
  | _, .param s => [⟨5, s, []⟩]
theorem It.flat_len : ∀ (x : It) (o : Nat), (x.flat o).length = x.cnt
  | .zero, _ => rfl
  | .succ n x, o => by simp [It.flat, It.cnt, It.flat_len x, sNodes_len]; omega
  | .max a b, o => by simp [It.flat, It.cnt, It.flat_len a, It.flat_len b]; omega
  | .imax a b, o => by simp [It.flat, It.cnt, It.flat_len a, It.flat_len b]; omega
  | .param _, _ => rfl
theorem It.cnt_pos : ∀ (x : It), 1 ≤ x.cnt
  | .zero => Nat.le_refl _
  | .succ n x => by have := It.cnt_pos x; simp only [It.cnt]; omega
  | .max a b => by simp only [It.cnt]; omega
  | .imax a b => by simp only [It.cnt]; omega
  | .param _ => Nat.le_refl _
theorem flat_around (x : It) (o : Nat) : (sAround x).flat o = x.flat o ++ [⟨2, ⟨#[]⟩, [((o + x.cnt - 1 : Nat) : Int)]⟩] := by
  cases x with
  | succ n y =>
    simp only [sAround, It.flat, sNodes, It.cnt, List.append_assoc]
    rw [show o + y.cnt + n - 1 = o + (n + y.cnt) - 1 from by omega]
  | zero => simp [sAround, It.flat, sNodes, It.cnt]
  | max a b => simp [sAround, It.flat, sNodes, It.cnt]
  | imax a b => simp [sAround, It.flat, sNodes, It.cnt]
  | param s => simp [sAround, It.flat, sNodes, It.cnt]
theorem it_flat : ∀ (t : Tr) (o : Nat), t.ok → t.it.flat o = t.flat o
  | .leaf k s, o, h => by
    rcases h.1 with rfl | rfl
    · have := empty_of (s := s) (by have := h.2; simpa [fieldsB] using this)
      subst this; simp [Tr.it, It.flat, Tr.flat]
    · simp [Tr.it, It.flat, Tr.flat]
  | .one k s a, o, h => by
    obtain ⟨rfl, hs, ha⟩ := h
    have := empty_of (s := s) (by simpa [fieldsB] using hs)
    subst this
    simp only [Tr.it, Tr.flat]
    rw [flat_around, it_flat a o ha, it_cnt a ha]
  | .two k s a b, o, h => by
    obtain ⟨hk, hs, ha, hb⟩ := h
    have e1 := it_flat a o ha
    have e2 := it_flat b (o + a.cnt) hb
    rcases hk with rfl | rfl
    · have := empty_of (s := s) (by simpa [fieldsB] using hs)
      subst this
      simp [Tr.it, Tr.flat, It.flat, it_cnt a ha, it_cnt b hb, e1, e2]
    · have := empty_of (s := s) (by simpa [fieldsB] using hs)
      subst this
      simp [Tr.it, Tr.flat, It.flat, it_cnt a ha, it_cnt b hb, e1, e2]

/-- A tree's nodes are gone through to its root. -/
theorem run_flat : ∀ (t : Tr) (o : Nat), t.ok → ∀ (ns : List Nd) (st : List Int), (∀ i nd, (t.flat o)[i]? = some nd → ns[o + i]? = some nd) → runTo ns o = some st → runTo ns (o + t.cnt) = some (st ++ [((o + t.cnt - 1 : Nat) : Int)])
  | .leaf k s, o, h, ns, st, hn, hr => by
    have h0 := hn 0 ⟨k, s, []⟩ rfl
    have hk : kidsN k = 0 := by rcases h.1 with rfl | rfl <;> rfl
    have hf : fieldsB ⟨k, s, []⟩ = true := h.2
    simp only [Tr.cnt, runTo, hr, Nat.add_zero] at h0 ⊢
    rw [h0]
    simp [stepN, hk, hf]
  | .one k s a, o, h, ns, st, hn, hr => by
    obtain ⟨rfl, hs, ha⟩ := h
    have l1 := Tr.flat_len a o
    have lp := Tr.cnt_pos a
    have ih := run_flat a o ha ns st (fun i nd hi => hn i nd (by simp only [Tr.flat]; exact get_left _ hi)) hr
    have h0 := hn a.cnt ⟨2, s, [((o + a.cnt - 1 : Nat) : Int)]⟩ (by simp only [Tr.flat]; rw [List.getElem?_append_right (by omega), l1]; simp)
    have hf : fieldsB ⟨2, s, [((o + a.cnt - 1 : Nat) : Int)]⟩ = true := hs
    simp only [Tr.cnt]
    rw [show o + (1 + a.cnt) = (o + a.cnt) + 1 from by omega]
    simp only [runTo, ih]
    rw [h0]
    have hk : kidsN 2 = 1 := rfl
    simp [stepN, hk, hf]
    omega
  | .two k s a b, o, h, ns, st, hn, hr => by
    obtain ⟨hk, hs, ha, hb⟩ := h
    have l1 := Tr.flat_len a o
    have l2 := Tr.flat_len b (o + a.cnt)
    have lp := Tr.cnt_pos a
    have lq := Tr.cnt_pos b
    have ih := run_flat a o ha ns st (fun i nd hi => hn i nd (by simp only [Tr.flat]; exact get_left _ (get_left _ hi))) hr
    have ih2 := run_flat b (o + a.cnt) hb ns _ (fun i nd hi => by
      have := hn (a.cnt + i) nd (by simp only [Tr.flat]; have := get_left [(⟨k, s, [((o + a.cnt - 1 : Nat) : Int), ((o + a.cnt + b.cnt - 1 : Nat) : Int)]⟩ : Nd)] (get_right (a.flat o) hi); rwa [l1] at this)
      rwa [← Nat.add_assoc] at this) ih
    have h0 := hn (a.cnt + b.cnt) ⟨k, s, [((o + a.cnt - 1 : Nat) : Int), ((o + a.cnt + b.cnt - 1 : Nat) : Int)]⟩ (by simp only [Tr.flat]; rw [List.getElem?_append_right (by simp; omega)]; simp [l1, l2])
    have hf : fieldsB ⟨k, s, [((o + a.cnt - 1 : Nat) : Int), ((o + a.cnt + b.cnt - 1 : Nat) : Int)]⟩ = true := hs
    simp only [Tr.cnt]
    rw [show o + (1 + a.cnt + b.cnt) = (o + a.cnt + b.cnt) + 1 from by omega]
    simp only [runTo, ih2]
    rw [← Nat.add_assoc] at h0
    rw [h0]
    have hk : kidsN k = 2 := by rcases hk with rfl | rfl <;> rfl
    simp [stepN, hk, hf]
    omega
theorem lvl_flat (t : Tr) (h : t.ok) : lvlB (t.flat 0) = fitsB t := by
  have hr := run_flat t 0 h (t.flat 0) [] (fun i nd hi => by rw [Nat.zero_add]; exact hi) rfl
  have hl := Tr.flat_len t 0
  have hp := Tr.cnt_pos t
  have hn : namesOf (t.flat 0) = t.names [] := (Tr.names_flat t 0 [] h).symm
  unfold lvlB fitsB
  rw [Nat.zero_add] at hr
  rw [hl, hr, hn]
  simp [hp]
end Go.Proofs.YtgomimhelgjddaaGreat
