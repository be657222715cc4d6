/- Facts that the walk of the specification's l1Tree wants; of LevelOk: whether the nodes make a valid level; nothing that was there is written. -/
import Derived.Test.YtcagcfhnbphggaaGreatDoorJoin
import Derived.Test.YtcagcfhnbphggaaGreatDoorImpl
import Derived.Deep.DrawnRows
import Derived.BigQuiet
import Derived.Deep.QuietTactic
import Derived.Shelf.SlSortCmp.QuietGrown
namespace Go.Proofs.YtcagcfhnbphggaaGreatDoor
open Go.ChangeShapes Go.WideShapes Go.ChangeAt Go.RowKit

theorem Tryz.info69 : (Tryz.prog.info? 69).map (fun i => (i.zero, i.size, i.bytes)) = some (some (.pointer none), 1, 8) := by kernel_rfl

set_option maxHeartbeats 400000 in
theorem l1Kids_any (k : Int) (w : World) (h1 : 1 ≤ k) (h5 : k ≤ 5) : Calls Tryz.prog 78 #[.int .i64 k] w fun e w' => e = .returned (.int .i64 (kidsN k)) ∧ w' = w.alloc (.cells #[.int .i64 0, .int .i64 0, .int .i64 1, .int .i64 2, .int .i64 2, .int .i64 0] 3) := by
  rcases (show k = 1 ∨ k = 2 ∨ k = 3 ∨ k = 4 ∨ k = 5 from by omega) with rfl | rfl | rfl | rfl | rfl
  all_goals
    go_enter Tryz.func78, Tryz.ntmps78
    go_wp2
    go_ret
    exact ⟨rfl, rfl⟩

def ptrV (p : Nat) : Value := .pointer (some ⟨p, 0, none⟩)
/-- The trees ts hang at the blocks ps. -/
def TreesAt (w : World) (ps : List Nat) (ts : List Tr) : Prop := ps.length = ts.length ∧ ∀ j (h : j < ps.length) (h2 : j < ts.length), TreeAt w.heap.size w ps[j] ts[j]

theorem below_grow {w w1 : World} (h : Below w.heap.size w w1) (n : Nat) (os : Array Obj) : Below w.heap.size w (Sort.grow (w1.drewN n) os) :=
  h.trans ⟨rfl, rfl, rfl, by simp [Sort.grow], fun k hk => by
    have h2 := h.size
    show (w1.heap ++ os)[k]? = _
    rw [Array.getElem?_append_left (by omega)]⟩
theorem row_form {w : World} {base : Nat} {e : TypeId} {size : Nat} {v : Value} {n : Nat} {xs : List Value} (h : w.ownsRow base e size v n xs) : ∃ a cap, v = .slice a n cap := by
  rcases h.2 with ⟨rfl, rfl⟩ | ⟨g, cap, _, rfl, _⟩
  · exact ⟨_, _, rfl⟩
  · exact ⟨_, _, rfl⟩
theorem one_of_len {α : Type} {l : List α} (h : l.length = 1) : ∃ x, l = [x] := by
  match l, h with
  | [x], _ => exact ⟨x, rfl⟩

/-- The two kids that a node is made of: those that were found, the others nil. -/
def kidVals (ps : List Nat) (lo j : Nat) : List Value := ((ps.drop lo).take j).map ptrV ++ List.replicate (2 - j) (.pointer none)
theorem kidVals_set (ps : List Nat) (lo j : Nat) (h : lo + j < ps.length) (hj : j < 2) : (kidVals ps lo j).set j (ptrV ps[lo + j]) = kidVals ps lo (j + 1) := by
  have hd : j < (ps.drop lo).length := by simp; omega
  have e1 : (ps.drop lo).take (j + 1) = (ps.drop lo).take j ++ [ps[lo + j]] := by
    rw [List.take_succ_eq_append_getElem hd]; simp
  have hl : (((ps.drop lo).take j).map ptrV).length = j := by simp; omega
  have e2 : List.replicate (2 - j) (Value.pointer none) = .pointer none :: List.replicate (2 - (j + 1)) (.pointer none) := by
    rw [show 2 - j = (2 - (j + 1)) + 1 from by omega, List.replicate_succ]
  unfold kidVals
  rw [List.set_append_right _ _ (by omega), hl, Nat.sub_self, e2, e1]
  simp

theorem ownsRow_cut {w : World} {base : Nat} {e : TypeId} {g n cap : Nat} {xs : List Value} (h : w.ownsRow base e 1 (.slice (some ⟨g, 0, none⟩) n cap) n xs) (m : Nat) (hm : m ≤ n) : w.ownsRow base e 1 (.slice (some ⟨g, 0, none⟩) m cap) m (xs.take m) := by
  obtain ⟨h1, h2⟩ := h
  rcases h2 with ⟨h', _⟩ | ⟨g', cap', cur, h', hb, hg, hnc, hcm, hcs, htake⟩
  · simp at h'
  · simp only [Value.slice.injEq, Option.some.injEq, Addr.mk.injEq, and_true, true_and] at h'
    obtain ⟨rfl, rfl⟩ := h'
    refine ⟨by simp; omega, .inr ⟨g, cap, cur, rfl, hb, hg, by omega, hcm, hcs, ?_⟩⟩
    rw [← htake, List.take_take]; congr 1; omega
theorem ownsRow_cap {w : World} {base : Nat} {e : TypeId} {size g n cap : Nat} {xs : List Value} (h : w.ownsRow base e size (.slice (some ⟨g, 0, none⟩) n cap) n xs) : n ≤ cap ∧ cap ≤ maxLen := by
  rcases h.2 with ⟨h', _⟩ | ⟨g', cap', cur, h', hb, hg, hnc, hcm, hcs, htake⟩
  · simp at h'
  · simp only [Value.slice.injEq, Option.some.injEq, Addr.mk.injEq, and_true, true_and] at h'
    obtain ⟨rfl, rfl⟩ := h'
    exact ⟨hnc, hcm⟩

theorem ownsRow_drewN {w : World} {base : Nat} {e : TypeId} {size : Nat} {v : Value} {n : Nat} {xs : List Value} (h : w.ownsRow base e size v n xs) (m : Nat) : (w.drewN m).ownsRow base e size v n xs := h
theorem alloc2_block (w : World) (o1 o2 : Obj) (m : Nat) : (((w.alloc o1).alloc o2).drewN m).heap[w.heap.size + 1]? = some o2 := by
  show ((w.alloc o1).alloc o2).heap[w.heap.size + 1]? = _
  rw [← World.size_alloc w o1]; exact heap_alloc_new _ _

theorem row_tag {w : World} {base : Nat} {e : TypeId} {size g n cap : Nat} {xs : List Value} (h : w.ownsRow base e size (.slice (some ⟨g, 0, none⟩) n cap) n xs) : ∃ cs, w.heap[g]? = some (.cells cs e (0, 0)) := by
  rcases h.2 with ⟨h', _⟩ | ⟨g', cap', cur, h', hb, hg, hnc, hcm, hcs, htake⟩
  · simp at h'
  · simp only [Value.slice.injEq, Option.some.injEq, Addr.mk.injEq, and_true, true_and] at h'
    obtain ⟨rfl, rfl⟩ := h'
    exact ⟨cur, hg⟩
theorem rows_ne {w : World} {b1 b2 : Nat} {s1 s2 g1 n1 c1 g2 n2 c2 : Nat} {e1 e2 : TypeId} {xs ys : List Value} (h1 : w.ownsRow b1 e1 s1 (.slice (some ⟨g1, 0, none⟩) n1 c1) n1 xs) (h2 : w.ownsRow b2 e2 s2 (.slice (some ⟨g2, 0, none⟩) n2 c2) n2 ys) (he : e1 ≠ e2) : g1 ≠ g2 := by
  intro e
  obtain ⟨a, ha⟩ := row_tag h1
  obtain ⟨b, hb⟩ := row_tag h2
  rw [e, hb] at ha
  simp at ha
  exact he ha.2.symm

/-- What stands behind one round of the specification's loop: a new node NV, a literal for the stack's append, that append, a literal for the tops' append, that append. -/
structure Behind (wr w3 w4 : World) (NV L1 L2 : Obj) (m gs gt : Nat) : Prop where
  g3 : (((wr.alloc NV).alloc L1).drewN m).grownBy w3 (some gs)
  t3 : ∃ cs, (((wr.alloc NV).alloc L1).drewN m).heap[gs]? = some (.cells cs 69 (0, 0))
  g4 : (w3.alloc L2).grownBy w4 (some gt)
  t4 : ∃ cs, (w3.alloc L2).heap[gt]? = some (.cells cs 3 (0, 0))
theorem Behind.size {wr w3 w4 : World} {NV L1 L2 : Obj} {m gs gt : Nat} (h : Behind wr w3 w4 NV L1 L2 m gs gt) : wr.heap.size + 1 + 1 + 1 ≤ w4.heap.size := by
  have h1 := h.g3.size
  have h2 := h.g4.size
  have e1 : (((wr.alloc NV).alloc L1).drewN m).heap.size = wr.heap.size + 1 + 1 := by show ((wr.alloc NV).alloc L1).heap.size = _; simp
  rw [e1] at h1
  simp at h2
  omega
theorem Behind.tree {wr w3 w4 : World} {NV L1 L2 : Obj} {m gs gt : Nat} (h : Behind wr w3 w4 NV L1 L2 m gs gt) {B g : Nat} {t : Tr} (ht : TreeAt B (((wr.alloc NV).alloc L1).drewN m) g t) (hB : B ≤ wr.heap.size + 1) : TreeAt w4.heap.size w4 g t := by
  have e1 : (((wr.alloc NV).alloc L1).drewN m).heap.size = wr.heap.size + 1 + 1 := by show ((wr.alloc NV).alloc L1).heap.size = _; simp
  have hs3 := h.g3.size
  rw [e1] at hs3
  have h1 := ht.grown h.g3 (fun k hk => by simp at hk; subst hk; obtain ⟨cs, hc⟩ := h.t3; exact ⟨cs, 69, by decide, hc⟩)
  have h2 : TreeAt B (w3.alloc L2) g t := h1.keep ((Below.refl B w3).alloc (by omega) L2)
  have h3 := h2.grown h.g4 (fun k hk => by simp at hk; subst hk; obtain ⟨cs, hc⟩ := h.t4; exact ⟨cs, 3, by decide, hc⟩)
  have := h.size
  exact h3.mono (by omega)
theorem Behind.below {wr w3 w4 : World} {NV L1 L2 : Obj} {m gs gt : Nat} (h : Behind wr w3 w4 NV L1 L2 m gs gt) {w : World} (hb : Below w.heap.size w wr) (hgs : w.heap.size ≤ gs) (hgt : w.heap.size ≤ gt) : Below w.heap.size w w4 := by
  have h1 : Below w.heap.size w (((wr.alloc NV).alloc L1).drewN m) := below_drewN (bel_alloc (bel_alloc hb _) _) m
  have h2 := h1.grown h.g3 h1.size (fun k hk => by simp at hk; omega)
  have h3 := bel_alloc h2 L2
  exact h3.grown h.g4 h3.size (fun k hk => by simp at hk; omega)
theorem Behind.cell {wr w3 w4 : World} {NV L1 L2 : Obj} {m gs gt : Nat} (h : Behind wr w3 w4 NV L1 L2 m gs gt) {b o : Nat} {v : Value} (hc : wr.cell? ⟨b, o, none⟩ = some v) (h1 : b ≠ gs) (h2 : b ≠ gt) : w4.cell? ⟨b, o, none⟩ = some v := by
  have hlt := lt_cell hc
  have c1 : (((wr.alloc NV).alloc L1).drewN m).cell? ⟨b, o, none⟩ = some v := keep_cell (below_drewN (bel_alloc (bel_alloc (Below.refl _ _) _) _) m) hc
  have c2 := h.g3.cell c1 (by simp; exact h1)
  have c3 : (w3.alloc L2).cell? ⟨b, o, none⟩ = some v := keep_cell (bel_alloc (Below.refl _ _) _) c2
  exact h.g4.cell c3 (by simp; exact h2)
theorem Behind.trees {wo wr w3 w4 : World} {NV L1 L2 : Obj} {m gs gt : Nat} (h : Behind wr w3 w4 NV L1 L2 m gs gt) {ps : List Nat} {ts : List Tr} (hbq : Below wo.heap.size wo wr) (ht : TreesAt wo ps ts) (lo : Nat) (hlo : lo ≤ ps.length) {t : Tr} (hn : TreeAt (wr.heap.size + 1) (((wr.alloc NV).alloc L1).drewN m) wr.heap.size t) :
    TreesAt w4 (ps.take lo ++ [wr.heap.size]) (ts.take lo ++ [t]) := by
  have hl := ht.1
  have hsz := hbq.size
  refine ⟨by simp; omega, fun j h1 h2 => ?_⟩
  have e1 : (ps.take lo).length = lo := by simp; omega
  have e2 : (ts.take lo).length = lo := by simp; omega
  by_cases e : j = lo
  · subst e
    rw [List.getElem_append_right (by omega), List.getElem_append_right (by omega)]
    simp only [e1, e2, Nat.sub_self, List.getElem_cons_zero]
    exact h.tree hn (Nat.le_refl _)
  · have hj : j < lo := by simp at h1; omega
    rw [List.getElem_append_left (by omega), List.getElem_append_left (by omega)]
    simp only [List.getElem_take]
    have h3 := (ht.2 j (by omega) (by omega)).keep hbq
    have h4 : TreeAt wo.heap.size (((wr.alloc NV).alloc L1).drewN m) ps[j] ts[j] := h3.keep (below_drewN (((Below.refl _ wr).alloc hsz _).alloc (by simp; omega) _) m)
    exact h.tree h4 (by omega)
theorem new_block (w : World) (o1 o2 : Obj) (m : Nat) : (((w.alloc o1).alloc o2).drewN m).heap[w.heap.size]? = some o1 := by
  show ((w.alloc o1).alloc o2).heap[w.heap.size]? = _
  rw [Below.heap_alloc _ _ _ (by simp)]; exact heap_alloc_new _ _
theorem kidVals_one (ps : List Nat) (lo : Nat) (h : lo < ps.length) : kidVals ps lo 1 = [ptrV ps[lo], .pointer none] := by
  unfold kidVals
  rw [List.drop_eq_getElem_cons h]; rfl
theorem kidVals_two (ps : List Nat) (lo : Nat) (h : lo + 1 < ps.length) : kidVals ps lo 2 = [ptrV (ps[lo]'(by omega)), ptrV ps[lo + 1]] := by
  unfold kidVals
  rw [List.drop_eq_getElem_cons (show lo < ps.length by omega), List.drop_eq_getElem_cons h]; rfl
theorem stands_zero {ns : List Nd} {k lo : Nat} {st : List Int} {ts : List Tr} {nd : Nd} (h : Stands ns k st ts) (hk : k < ns.length) (hnd : ns[k] = nd) (hn : kidsN nd.k = 0) (hf : fieldsB nd = true) (hkids : nd.kids = []) (hlo : lo = ts.length) :
    Stands ns (k + 1) (st.take lo ++ [(k : Int)]) (ts.take lo ++ [.leaf nd.k nd.s]) := by
  subst hnd; subst hlo
  rw [List.take_length]
  exact h.zero hk hn hf hkids
theorem stands_one {ns : List Nd} {k lo : Nat} {st : List Int} {ts : List Tr} {nd : Nd} (h : Stands ns k st ts) (hk : k < ns.length) (hnd : ns[k] = nd) (hn : kidsN nd.k = 1) (hf : fieldsB nd = true) (hkids : nd.kids = st.drop lo) (hlo : lo + 1 = ts.length) :
    Stands ns (k + 1) (st.take lo ++ [(k : Int)]) (ts.take lo ++ [.one nd.k nd.s (ts[lo]'(by omega))]) := by
  subst hnd
  have e : ts = ts.take lo ++ [ts[lo]'(by omega)] := by
    have := List.take_succ_eq_append_getElem (l := ts) (i := lo) (by omega)
    rw [hlo, List.take_length] at this
    exact this
  have hl : (ts.take lo).length = lo := by simp; omega
  have h2 : Stands ns k st (ts.take lo ++ [ts[lo]'(by omega)]) := by rw [← e]; exact h
  have := h2.one hk hn hf (by rw [hl]; exact hkids)
  rwa [hl] at this
theorem stands_two {ns : List Nd} {k lo : Nat} {st : List Int} {ts : List Tr} {nd : Nd} (h : Stands ns k st ts) (hk : k < ns.length) (hnd : ns[k] = nd) (hn : kidsN nd.k = 2) (hf : fieldsB nd = true) (hkids : nd.kids = st.drop lo) (hlo : lo + 2 = ts.length) :
    Stands ns (k + 1) (st.take lo ++ [(k : Int)]) (ts.take lo ++ [.two nd.k nd.s (ts[lo]'(by omega)) (ts[lo + 1]'(by omega))]) := by
  subst hnd
  have e : ts = ts.take lo ++ [ts[lo]'(by omega), ts[lo + 1]'(by omega)] := by
    have h1 := List.take_succ_eq_append_getElem (l := ts) (i := lo + 1) (by omega)
    have h2 := List.take_succ_eq_append_getElem (l := ts) (i := lo) (by omega)
    rw [show lo + 1 + 1 = ts.length from by omega, List.take_length, h2] at h1
    rw [List.append_assoc] at h1
    exact h1
  have hl : (ts.take lo).length = lo := by simp; omega
  have h2 : Stands ns k st (ts.take lo ++ [ts[lo]'(by omega), ts[lo + 1]'(by omega)]) := by rw [← e]; exact h
  have := h2.two hk hn hf (by rw [hl]; exact hkids)
  rwa [hl] at this
end Go.Proofs.YtcagcfhnbphggaaGreatDoor
