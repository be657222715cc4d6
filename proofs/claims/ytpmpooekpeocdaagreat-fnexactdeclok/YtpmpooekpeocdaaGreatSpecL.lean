/- Plain facts: a tree of a level, its nodes in the order kids first, and what one step over the nodes does to a stack of trees. -/
import Derived.Test.YtpmpooekpeocdaaGreatNames
import Derived.Test.YtpmpooekpeocdaaGreatTImpl
import Derived.Deep.DrawnRows
import Derived.BigQuiet
import Derived.Deep.QuietTactic
import Derived.Shelf.SlSortCmp.QuietGrown
namespace Go.Proofs.YtpmpooekpeocdaaGreat

/-- The nodes of a tree, kids first, the first one standing at place o. -/
def Tr.flat : Nat → Tr → List Nd
  | _, .leaf k s => [⟨k, s, []⟩]
  | o, .one k s a => a.flat o ++ [⟨k, s, [((o + a.cnt - 1 : Nat) : Int)]⟩]
  | o, .two k s a b => a.flat o ++ b.flat (o + a.cnt) ++ [⟨k, s, [((o + a.cnt - 1 : Nat) : Int), ((o + a.cnt + b.cnt - 1 : Nat) : Int)]⟩]
/-- The kinds of the nodes fit the numbers of their kids, and their texts fit the kinds. -/
def Tr.ok : Tr → Prop
  | .leaf k s => (k = 1 ∨ k = 5) ∧ fieldsB ⟨k, s, []⟩ = true
  | .one k s a => k = 2 ∧ fieldsB ⟨k, s, []⟩ = true ∧ a.ok
  | .two k s a b => (k = 3 ∨ k = 4) ∧ fieldsB ⟨k, s, []⟩ = true ∧ a.ok ∧ b.ok
theorem Tr.flat_len : ∀ (t : Tr) (o : Nat), (t.flat o).length = t.cnt
  | .leaf _ _, _ => rfl
  | .one _ _ a, o => by simp [Tr.flat, Tr.cnt, Tr.flat_len a]; omega
  | .two _ _ a b, o => by simp [Tr.flat, Tr.cnt, Tr.flat_len a, Tr.flat_len b]; omega
theorem addName_ne (acc : List ByteArray) (nd : Nd) (h : nd.k ≠ 5) : addName acc nd = acc := by simp [addName, h]
theorem Tr.names_flat : ∀ (t : Tr) (o : Nat) (acc : List ByteArray), t.ok → t.names acc = (t.flat o).foldl addName acc
  | .leaf k s, o, acc, _ => by simp [Tr.names, Tr.flat, addName, addS]
  | .one k s a, o, acc, h => by
    obtain ⟨rfl, _, ha⟩ := h
    simp only [Tr.names, Tr.flat, List.foldl_append, List.foldl_cons, List.foldl_nil]
    rw [addName_ne _ _ (by simp), ← Tr.names_flat a o acc ha]; simp [addS]
  | .two k s a b, o, acc, h => by
    obtain ⟨hk, _, ha, hb⟩ := h
    simp only [Tr.names, Tr.flat, List.foldl_append, List.foldl_cons, List.foldl_nil]
    have h5 : k ≠ 5 := by omega
    rw [addName_ne _ _ h5, ← Tr.names_flat a o acc ha, ← Tr.names_flat b (o + a.cnt) _ hb]; simp [addS, h5]

def cnts : List Tr → Nat
  | [] => 0
  | t :: ts => t.cnt + cnts ts
def flats : Nat → List Tr → List Nd
  | _, [] => []
  | o, t :: ts => t.flat o ++ flats (o + t.cnt) ts
def rootsOf : Nat → List Tr → List Int
  | _, [] => []
  | o, t :: ts => ((o + t.cnt - 1 : Nat) : Int) :: rootsOf (o + t.cnt) ts
theorem cnts_append (xs ys : List Tr) : cnts (xs ++ ys) = cnts xs + cnts ys := by
  induction xs with
  | nil => simp [cnts]
  | cons x xs ih => simp [cnts, ih]; omega
theorem flats_append (xs ys : List Tr) : ∀ o, flats o (xs ++ ys) = flats o xs ++ flats (o + cnts xs) ys := by
  induction xs with
  | nil => intro o; simp [flats, cnts]
  | cons x xs ih => intro o; simp [flats, cnts, ih, Nat.add_assoc]
theorem roots_append (xs ys : List Tr) : ∀ o, rootsOf o (xs ++ ys) = rootsOf o xs ++ rootsOf (o + cnts xs) ys := by
  induction xs with
  | nil => intro o; simp [rootsOf, cnts]
  | cons x xs ih => intro o; simp [rootsOf, cnts, ih, Nat.add_assoc]
theorem flats_len (ts : List Tr) : ∀ o, (flats o ts).length = cnts ts := by
  induction ts with
  | nil => intro o; rfl
  | cons t ts ih => intro o; simp [flats, cnts, ih, Tr.flat_len]
theorem roots_len (ts : List Tr) : ∀ o, (rootsOf o ts).length = ts.length := by
  induction ts with
  | nil => intro o; rfl
  | cons t ts ih => intro o; simp [rootsOf, ih]

/-- Where a walk over the nodes stands: k nodes are read, the trees ts stand on the stack. -/
structure Stands (ns : List Nd) (k : Nat) (st : List Int) (ts : List Tr) : Prop where
  flat : ns.take k = flats 0 ts
  roots : st = rootsOf 0 ts
  ok : ∀ t ∈ ts, t.ok
theorem Stands.start (ns : List Nd) : Stands ns 0 [] [] := ⟨by simp [flats], rfl, by simp⟩
theorem Stands.len {ns : List Nd} {k : Nat} {st : List Int} {ts : List Tr} (h : Stands ns k st ts) : st.length = ts.length := by rw [h.roots, roots_len]
theorem Stands.cnt {ns : List Nd} {k : Nat} {st : List Int} {ts : List Tr} (h : Stands ns k st ts) (hk : k ≤ ns.length) : cnts ts = k := by
  rw [← flats_len ts 0, ← h.flat]; simp; omega

theorem Stands.step {ns : List Nd} {k : Nat} {st : List Int} {xs ys : List Tr} {t : Tr} (h : Stands ns k st (xs ++ ys)) (hk : k < ns.length) (hok : t.ok) (hflat : t.flat (cnts xs) = flats (cnts xs) ys ++ [ns[k]]) :
    Stands ns (k + 1) (st.take xs.length ++ [(k : Int)]) (xs ++ [t]) := by
  have hc := h.cnt (Nat.le_of_lt hk)
  have hf := h.flat
  have hr := h.roots
  have hlen : t.cnt = cnts ys + 1 := by rw [← Tr.flat_len t (cnts xs), hflat]; simp [flats_len]
  rw [cnts_append] at hc
  rw [flats_append, Nat.zero_add] at hf
  rw [roots_append, Nat.zero_add] at hr
  refine ⟨?_, ?_, ?_⟩
  · rw [List.take_succ_eq_append_getElem hk, hf, flats_append, Nat.zero_add]
    simp [flats, hflat]
  · rw [roots_append, Nat.zero_add, hr, List.take_left' (by rw [roots_len])]
    simp only [rootsOf, List.append_cancel_left_eq, List.cons.injEq, and_true]
    omega
  · intro u hu
    rcases List.mem_append.1 hu with h1 | h1
    · exact h.ok u (by simp [h1])
    · simp at h1; subst h1; exact hok
theorem Stands.drop {ns : List Nd} {k : Nat} {st : List Int} {xs ys : List Tr} (h : Stands ns k st (xs ++ ys)) : st.drop xs.length = rootsOf (cnts xs) ys := by
  rw [h.roots, roots_append, Nat.zero_add, List.drop_left' (by rw [roots_len])]

/-- One node more, by the number of its kids. -/
theorem Stands.zero {ns : List Nd} {k : Nat} {st : List Int} {xs : List Tr} (h : Stands ns k st xs) (hk : k < ns.length) (hn : kidsN ns[k].k = 0) (hf : fieldsB ns[k] = true) (hkids : ns[k].kids = []) :
    Stands ns (k + 1) (st.take xs.length ++ [(k : Int)]) (xs ++ [.leaf ns[k].k ns[k].s]) := by
  have h' : Stands ns k st (xs ++ []) := by simpa using h
  refine h'.step hk ⟨?_, hf⟩ ?_
  · unfold kidsN at hn; split at hn
    · assumption
    · split at hn
      · cases hn
      · split at hn <;> cases hn
  · simp [Tr.flat, flats, ← hkids]
theorem Stands.one {ns : List Nd} {k : Nat} {st : List Int} {xs : List Tr} {a : Tr} (h : Stands ns k st (xs ++ [a])) (hk : k < ns.length) (hn : kidsN ns[k].k = 1) (hf : fieldsB ns[k] = true) (hkids : ns[k].kids = st.drop xs.length) :
    Stands ns (k + 1) (st.take xs.length ++ [(k : Int)]) (xs ++ [.one ns[k].k ns[k].s a]) := by
  refine h.step hk ⟨?_, hf, h.ok a (by simp)⟩ ?_
  · unfold kidsN at hn; split at hn
    · cases hn
    · split at hn
      · assumption
      · split at hn <;> cases hn
  · rw [h.drop] at hkids
    simp only [Tr.flat, flats, List.append_nil, List.append_cancel_left_eq, List.cons.injEq, and_true]
    simp only [rootsOf] at hkids
    rw [← hkids]
theorem Stands.two {ns : List Nd} {k : Nat} {st : List Int} {xs : List Tr} {a b : Tr} (h : Stands ns k st (xs ++ [a, b])) (hk : k < ns.length) (hn : kidsN ns[k].k = 2) (hf : fieldsB ns[k] = true) (hkids : ns[k].kids = st.drop xs.length) :
    Stands ns (k + 1) (st.take xs.length ++ [(k : Int)]) (xs ++ [.two ns[k].k ns[k].s a b]) := by
  refine h.step hk ⟨?_, hf, h.ok a (by simp), h.ok b (by simp)⟩ ?_
  · unfold kidsN at hn; split at hn
    · cases hn
    · split at hn
      · cases hn
      · split at hn
        · assumption
        · cases hn
  · rw [h.drop] at hkids
    simp only [Tr.flat, flats, List.append_nil, List.append_assoc, List.append_cancel_left_eq, List.cons.injEq, and_true]
    simp only [rootsOf] at hkids
    rw [← hkids]
theorem Stands.all {ns : List Nd} {st : List Int} {t : Tr} (h : Stands ns ns.length st [t]) : ns = t.flat 0 ∧ t.ok ∧ t.names [] = namesOf ns ∧ t.cnt = ns.length := by
  have hf := h.flat
  simp [flats] at hf
  have hok := h.ok t (by simp)
  exact ⟨hf, hok, by rw [Tr.names_flat t 0 [] hok, ← hf]; rfl, by rw [← Tr.flat_len t 0, ← hf]⟩
end Go.Proofs.YtpmpooekpeocdaaGreat

/- Facts that the walk of the specification's l1Tree wants; of LevelOk: whether the nodes make a valid level; nothing that was there is written. -/
namespace Go.Proofs.YtpmpooekpeocdaaGreat
open Go.ChangeShapes Go.WideShapes Go.ChangeAt Go.RowKit

theorem Tryz.info150 : (Tryz.prog.info? 150).map (fun i => (i.zero, i.size, i.bytes)) = some (some (.pointer none), 1, 8) := by kernel_rfl

set_option maxHeartbeats 400000 in
theorem l1Kids_any (k : Int) (w : World) (h1 : 1 ≤ k) (h5 : k ≤ 5) : Calls Tryz.prog 246 #[.int .i64 k] w fun e w' => e = .returned (.int .i64 (kidsN k)) ∧ w' = w.alloc (.cells #[.int .i64 0, .int .i64 0, .int .i64 1, .int .i64 2, .int .i64 2, .int .i64 0] 3) := by
  rcases (show k = 1 ∨ k = 2 ∨ k = 3 ∨ k = 4 ∨ k = 5 from by omega) with rfl | rfl | rfl | rfl | rfl
  all_goals
    go_enter Tryz.func246, Tryz.ntmps246
    go_wp2
    go_ret
    exact ⟨rfl, rfl⟩

def ptrV (p : Nat) : Value := .pointer (some ⟨p, 0, none⟩)
/-- The trees ts hang at the blocks ps. -/
def TreesAt (w : World) (ps : List Nat) (ts : List Tr) : Prop := ps.length = ts.length ∧ ∀ j (h : j < ps.length) (h2 : j < ts.length), TreeAt w.heap.size w ps[j] ts[j]

theorem below_grow {w w1 : World} (h : Below w.heap.size w w1) (n : Nat) (os : Array Obj) : Below w.heap.size w (Sort.grow (w1.drewN n) os) :=
  h.trans ⟨rfl, rfl, rfl, by simp [Sort.grow], fun k hk => by
    have h2 := h.size
    show (w1.heap ++ os)[k]? = _
    rw [Array.getElem?_append_left (by omega)]⟩
theorem row_form {w : World} {base : Nat} {e : TypeId} {size : Nat} {v : Value} {n : Nat} {xs : List Value} (h : w.ownsRow base e size v n xs) : ∃ a cap, v = .slice a n cap := by
  rcases h.2 with ⟨rfl, rfl⟩ | ⟨g, cap, _, rfl, _⟩
  · exact ⟨_, _, rfl⟩
  · exact ⟨_, _, rfl⟩
theorem one_of_len {α : Type} {l : List α} (h : l.length = 1) : ∃ x, l = [x] := by
  match l, h with
  | [x], _ => exact ⟨x, rfl⟩

/-- The two kids that a node is made of: those that were found, the others nil. -/
def kidVals (ps : List Nat) (lo j : Nat) : List Value := ((ps.drop lo).take j).map ptrV ++ List.replicate (2 - j) (.pointer none)
theorem kidVals_set (ps : List Nat) (lo j : Nat) (h : lo + j < ps.length) (hj : j < 2) : (kidVals ps lo j).set j (ptrV ps[lo + j]) = kidVals ps lo (j + 1) := by
  have hd : j < (ps.drop lo).length := by simp; omega
  have e1 : (ps.drop lo).take (j + 1) = (ps.drop lo).take j ++ [ps[lo + j]] := by
    rw [List.take_succ_eq_append_getElem hd]; simp
  have hl : (((ps.drop lo).take j).map ptrV).length = j := by simp; omega
  have e2 : List.replicate (2 - j) (Value.pointer none) = .pointer none :: List.replicate (2 - (j + 1)) (.pointer none) := by
    rw [show 2 - j = (2 - (j + 1)) + 1 from by omega, List.replicate_succ]
  unfold kidVals
  rw [List.set_append_right _ _ (by omega), hl, Nat.sub_self, e2, e1]
  simp

theorem ownsRow_cut {w : World} {base : Nat} {e : TypeId} {g n cap : Nat} {xs : List Value} (h : w.ownsRow base e 1 (.slice (some ⟨g, 0, none⟩) n cap) n xs) (m : Nat) (hm : m ≤ n) : w.ownsRow base e 1 (.slice (some ⟨g, 0, none⟩) m cap) m (xs.take m) := by
  obtain ⟨h1, h2⟩ := h
  rcases h2 with ⟨h', _⟩ | ⟨g', cap', cur, h', hb, hg, hnc, hcm, hcs, htake⟩
  · simp at h'
  · simp only [Value.slice.injEq, Option.some.injEq, Addr.mk.injEq, and_true, true_and] at h'
    obtain ⟨rfl, rfl⟩ := h'
    refine ⟨by simp; omega, .inr ⟨g, cap, cur, rfl, hb, hg, by omega, hcm, hcs, ?_⟩⟩
    rw [← htake, List.take_take]; congr 1; omega
theorem ownsRow_cap {w : World} {base : Nat} {e : TypeId} {size g n cap : Nat} {xs : List Value} (h : w.ownsRow base e size (.slice (some ⟨g, 0, none⟩) n cap) n xs) : n ≤ cap ∧ cap ≤ maxLen := by
  rcases h.2 with ⟨h', _⟩ | ⟨g', cap', cur, h', hb, hg, hnc, hcm, hcs, htake⟩
  · simp at h'
  · simp only [Value.slice.injEq, Option.some.injEq, Addr.mk.injEq, and_true, true_and] at h'
    obtain ⟨rfl, rfl⟩ := h'
    exact ⟨hnc, hcm⟩

theorem ownsRow_drewN {w : World} {base : Nat} {e : TypeId} {size : Nat} {v : Value} {n : Nat} {xs : List Value} (h : w.ownsRow base e size v n xs) (m : Nat) : (w.drewN m).ownsRow base e size v n xs := h
theorem alloc2_block (w : World) (o1 o2 : Obj) (m : Nat) : (((w.alloc o1).alloc o2).drewN m).heap[w.heap.size + 1]? = some o2 := by
  show ((w.alloc o1).alloc o2).heap[w.heap.size + 1]? = _
  rw [← World.size_alloc w o1]; exact heap_alloc_new _ _

theorem row_tag {w : World} {base : Nat} {e : TypeId} {size g n cap : Nat} {xs : List Value} (h : w.ownsRow base e size (.slice (some ⟨g, 0, none⟩) n cap) n xs) : ∃ cs, w.heap[g]? = some (.cells cs e (0, 0)) := by
  rcases h.2 with ⟨h', _⟩ | ⟨g', cap', cur, h', hb, hg, hnc, hcm, hcs, htake⟩
  · simp at h'
  · simp only [Value.slice.injEq, Option.some.injEq, Addr.mk.injEq, and_true, true_and] at h'
    obtain ⟨rfl, rfl⟩ := h'
    exact ⟨cur, hg⟩
theorem rows_ne {w : World} {b1 b2 : Nat} {s1 s2 g1 n1 c1 g2 n2 c2 : Nat} {e1 e2 : TypeId} {xs ys : List Value} (h1 : w.ownsRow b1 e1 s1 (.slice (some ⟨g1, 0, none⟩) n1 c1) n1 xs) (h2 : w.ownsRow b2 e2 s2 (.slice (some ⟨g2, 0, none⟩) n2 c2) n2 ys) (he : e1 ≠ e2) : g1 ≠ g2 := by
  intro e
  obtain ⟨a, ha⟩ := row_tag h1
  obtain ⟨b, hb⟩ := row_tag h2
  rw [e, hb] at ha
  simp at ha
  exact he ha.2.symm

/-- What stands behind one round of the specification's loop: a new node NV, a literal for the stack's append, that append, a literal for the tops' append, that append. -/
structure Behind (wr w3 w4 : World) (NV L1 L2 : Obj) (m gs gt : Nat) : Prop where
  g3 : (((wr.alloc NV).alloc L1).drewN m).grownBy w3 (some gs)
  t3 : ∃ cs, (((wr.alloc NV).alloc L1).drewN m).heap[gs]? = some (.cells cs 150 (0, 0))
  g4 : (w3.alloc L2).grownBy w4 (some gt)
  t4 : ∃ cs, (w3.alloc L2).heap[gt]? = some (.cells cs 3 (0, 0))
theorem Behind.size {wr w3 w4 : World} {NV L1 L2 : Obj} {m gs gt : Nat} (h : Behind wr w3 w4 NV L1 L2 m gs gt) : wr.heap.size + 1 + 1 + 1 ≤ w4.heap.size := by
  have h1 := h.g3.size
  have h2 := h.g4.size
  have e1 : (((wr.alloc NV).alloc L1).drewN m).heap.size = wr.heap.size + 1 + 1 := by show ((wr.alloc NV).alloc L1).heap.size = _; simp
  rw [e1] at h1
  simp at h2
  omega
theorem Behind.tree {wr w3 w4 : World} {NV L1 L2 : Obj} {m gs gt : Nat} (h : Behind wr w3 w4 NV L1 L2 m gs gt) {B g : Nat} {t : Tr} (ht : TreeAt B (((wr.alloc NV).alloc L1).drewN m) g t) (hB : B ≤ wr.heap.size + 1) : TreeAt w4.heap.size w4 g t := by
  have e1 : (((wr.alloc NV).alloc L1).drewN m).heap.size = wr.heap.size + 1 + 1 := by show ((wr.alloc NV).alloc L1).heap.size = _; simp
  have hs3 := h.g3.size
  rw [e1] at hs3
  have h1 := ht.grown h.g3 (fun k hk => by simp at hk; subst hk; obtain ⟨cs, hc⟩ := h.t3; exact ⟨cs, 150, by decide, hc⟩)
  have h2 : TreeAt B (w3.alloc L2) g t := h1.keep ((Below.refl B w3).alloc (by omega) L2)
  have h3 := h2.grown h.g4 (fun k hk => by simp at hk; subst hk; obtain ⟨cs, hc⟩ := h.t4; exact ⟨cs, 3, by decide, hc⟩)
  have := h.size
  exact h3.mono (by omega)
theorem Behind.below {wr w3 w4 : World} {NV L1 L2 : Obj} {m gs gt : Nat} (h : Behind wr w3 w4 NV L1 L2 m gs gt) {w : World} (hb : Below w.heap.size w wr) (hgs : w.heap.size ≤ gs) (hgt : w.heap.size ≤ gt) : Below w.heap.size w w4 := by
  have h1 : Below w.heap.size w (((wr.alloc NV).alloc L1).drewN m) := below_drewN (bel_alloc (bel_alloc hb _) _) m
  have h2 := h1.grown h.g3 h1.size (fun k hk => by simp at hk; omega)
  have h3 := bel_alloc h2 L2
  exact h3.grown h.g4 h3.size (fun k hk => by simp at hk; omega)
theorem Behind.cell {wr w3 w4 : World} {NV L1 L2 : Obj} {m gs gt : Nat} (h : Behind wr w3 w4 NV L1 L2 m gs gt) {b o : Nat} {v : Value} (hc : wr.cell? ⟨b, o, none⟩ = some v) (h1 : b ≠ gs) (h2 : b ≠ gt) : w4.cell? ⟨b, o, none⟩ = some v := by
  have hlt := lt_cell hc
  have c1 : (((wr.alloc NV).alloc L1).drewN m).cell? ⟨b, o, none⟩ = some v := keep_cell (below_drewN (bel_alloc (bel_alloc (Below.refl _ _) _) _) m) hc
  have c2 := h.g3.cell c1 (by simp; exact h1)
  have c3 : (w3.alloc L2).cell? ⟨b, o, none⟩ = some v := keep_cell (bel_alloc (Below.refl _ _) _) c2
  exact h.g4.cell c3 (by simp; exact h2)
theorem Behind.trees {wo wr w3 w4 : World} {NV L1 L2 : Obj} {m gs gt : Nat} (h : Behind wr w3 w4 NV L1 L2 m gs gt) {ps : List Nat} {ts : List Tr} (hbq : Below wo.heap.size wo wr) (ht : TreesAt wo ps ts) (lo : Nat) (hlo : lo ≤ ps.length) {t : Tr} (hn : TreeAt (wr.heap.size + 1) (((wr.alloc NV).alloc L1).drewN m) wr.heap.size t) :
    TreesAt w4 (ps.take lo ++ [wr.heap.size]) (ts.take lo ++ [t]) := by
  have hl := ht.1
  have hsz := hbq.size
  refine ⟨by simp; omega, fun j h1 h2 => ?_⟩
  have e1 : (ps.take lo).length = lo := by simp; omega
  have e2 : (ts.take lo).length = lo := by simp; omega
  by_cases e : j = lo
  · subst e
    rw [List.getElem_append_right (by omega), List.getElem_append_right (by omega)]
    simp only [e1, e2, Nat.sub_self, List.getElem_cons_zero]
    exact h.tree hn (Nat.le_refl _)
  · have hj : j < lo := by simp at h1; omega
    rw [List.getElem_append_left (by omega), List.getElem_append_left (by omega)]
    simp only [List.getElem_take]
    have h3 := (ht.2 j (by omega) (by omega)).keep hbq
    have h4 : TreeAt wo.heap.size (((wr.alloc NV).alloc L1).drewN m) ps[j] ts[j] := h3.keep (below_drewN (((Below.refl _ wr).alloc hsz _).alloc (by simp; omega) _) m)
    exact h.tree h4 (by omega)
theorem new_block (w : World) (o1 o2 : Obj) (m : Nat) : (((w.alloc o1).alloc o2).drewN m).heap[w.heap.size]? = some o1 := by
  show ((w.alloc o1).alloc o2).heap[w.heap.size]? = _
  rw [Below.heap_alloc _ _ _ (by simp)]; exact heap_alloc_new _ _
theorem kidVals_one (ps : List Nat) (lo : Nat) (h : lo < ps.length) : kidVals ps lo 1 = [ptrV ps[lo], .pointer none] := by
  unfold kidVals
  rw [List.drop_eq_getElem_cons h]; rfl
theorem kidVals_two (ps : List Nat) (lo : Nat) (h : lo + 1 < ps.length) : kidVals ps lo 2 = [ptrV (ps[lo]'(by omega)), ptrV ps[lo + 1]] := by
  unfold kidVals
  rw [List.drop_eq_getElem_cons (show lo < ps.length by omega), List.drop_eq_getElem_cons h]; rfl
theorem stands_zero {ns : List Nd} {k lo : Nat} {st : List Int} {ts : List Tr} {nd : Nd} (h : Stands ns k st ts) (hk : k < ns.length) (hnd : ns[k] = nd) (hn : kidsN nd.k = 0) (hf : fieldsB nd = true) (hkids : nd.kids = []) (hlo : lo = ts.length) :
    Stands ns (k + 1) (st.take lo ++ [(k : Int)]) (ts.take lo ++ [.leaf nd.k nd.s]) := by
  subst hnd; subst hlo
  rw [List.take_length]
  exact h.zero hk hn hf hkids
theorem stands_one {ns : List Nd} {k lo : Nat} {st : List Int} {ts : List Tr} {nd : Nd} (h : Stands ns k st ts) (hk : k < ns.length) (hnd : ns[k] = nd) (hn : kidsN nd.k = 1) (hf : fieldsB nd = true) (hkids : nd.kids = st.drop lo) (hlo : lo + 1 = ts.length) :
    Stands ns (k + 1) (st.take lo ++ [(k : Int)]) (ts.take lo ++ [.one nd.k nd.s (ts[lo]'(by omega))]) := by
  subst hnd
  have e : ts = ts.take lo ++ [ts[lo]'(by omega)] := by
    have := List.take_succ_eq_append_getElem (l := ts) (i := lo) (by omega)
    rw [hlo, List.take_length] at this
    exact this
  have hl : (ts.take lo).length = lo := by simp; omega
  have h2 : Stands ns k st (ts.take lo ++ [ts[lo]'(by omega)]) := by rw [← e]; exact h
  have := h2.one hk hn hf (by rw [hl]; exact hkids)
  rwa [hl] at this
theorem stands_two {ns : List Nd} {k lo : Nat} {st : List Int} {ts : List Tr} {nd : Nd} (h : Stands ns k st ts) (hk : k < ns.length) (hnd : ns[k] = nd) (hn : kidsN nd.k = 2) (hf : fieldsB nd = true) (hkids : nd.kids = st.drop lo) (hlo : lo + 2 = ts.length) :
    Stands ns (k + 1) (st.take lo ++ [(k : Int)]) (ts.take lo ++ [.two nd.k nd.s (ts[lo]'(by omega)) (ts[lo + 1]'(by omega))]) := by
  subst hnd
  have e : ts = ts.take lo ++ [ts[lo]'(by omega), ts[lo + 1]'(by omega)] := by
    have h1 := List.take_succ_eq_append_getElem (l := ts) (i := lo + 1) (by omega)
    have h2 := List.take_succ_eq_append_getElem (l := ts) (i := lo) (by omega)
    rw [show lo + 1 + 1 = ts.length from by omega, List.take_length, h2] at h1
    rw [List.append_assoc] at h1
    exact h1
  have hl : (ts.take lo).length = lo := by simp; omega
  have h2 : Stands ns k st (ts.take lo ++ [ts[lo]'(by omega), ts[lo + 1]'(by omega)]) := by rw [← e]; exact h
  have := h2.two hk hn hf (by rw [hl]; exact hkids)
  rwa [hl] at this
end Go.Proofs.YtpmpooekpeocdaaGreat
