/- The heap of raised sides: Swap, Pop and Push, walked. -/
import Derived.Test.YteedainidoldoaaSvW
namespace Go.Proofs.Yteedainidoldoaa
open Go.ChangeShapes Go.WideShapes Go.ChangeAt Go.RowKit

/-- A block that is neither the heap's own nor its list's. -/
def Off (w : World) (rb k : Nat) : Prop := k ≠ rb ∧ ∀ v, w.cell? ⟨rb, 0, none⟩ = some v → v.ownBlock ≠ some k
/-- What a call on the heap leaves as it is. -/
structure FrH (rb : Nat) (w w' : World) : Prop where
  bel : Below rb w w'
  off : ∀ k, k < w.heap.size → Off w rb k → w'.heap[k]? = w.heap[k]? ∧ Off w' rb k
theorem FrH.trans {rb : Nat} {w w1 w2 : World} (h : FrH rb w w1) (h2 : FrH rb w1 w2) : FrH rb w w2 :=
  ⟨h.bel.trans h2.bel, fun k hk ho => by
    obtain ⟨a1, a2⟩ := h.off k hk ho
    obtain ⟨b1, b2⟩ := h2.off k (Nat.lt_of_lt_of_le hk h.bel.size) a2
    exact ⟨b1.trans a1, b2⟩⟩
theorem FrH.keep {rb : Nat} {w w' : World} (hb : Below w.heap.size w w') (hr : rb < w.heap.size) : FrH rb w w' :=
  ⟨hb.mono (Nat.le_of_lt hr), fun k hk ho => ⟨hb.block k hk, ho.1, fun v hv => ho.2 v (by rw [← hb.cell (p := ⟨rb, 0, none⟩) hr]; exact hv)⟩⟩
theorem FrH.refl {rb : Nat} {w : World} (hr : rb < w.heap.size) : FrH rb w w := .keep (Below.refl _ _) hr
theorem Off.cell {w w' : World} {rb k : Nat} (h : FrH rb w w') (ho : Off w rb k) {o : Nat} {v : Value} (hc : w.cell? ⟨k, o, none⟩ = some v) : w'.cell? ⟨k, o, none⟩ = some v := by
  have hb := (h.off k (lt_cell hc) ho).1
  unfold World.cell? at *
  simp only at *
  rw [hb]
  exact hc
theorem RowF.swap {xs : List Value} {f : Nat → Rp} {n i j : Nat} (hl : xs.length = n * 2) (h : RowF xs f n) (hi : i < n) (hj : j < n) (hij : i ≠ j) :
    RowF ((((xs.set (i * 2) (.int .i64 (f j).1)).set (i * 2 + 1) (.int .i64 (f j).2)).set (j * 2) (.int .i64 (f i).1)).set (j * 2 + 1) (.int .i64 (f i).2)) (swF f i j) n := by
  intro k hk
  by_cases ej : k = j
  · subst ej
    rw [sw_j]
    exact ⟨by rw [List.getElem?_set_ne (by omega), List.getElem?_set_self (by first | omega | (simp; omega))], by rw [List.getElem?_set_self (by first | omega | (simp; omega))]⟩
  · by_cases ei : k = i
    · subst ei
      rw [sw_i]
      exact ⟨by rw [List.getElem?_set_ne (by omega), List.getElem?_set_ne (by omega), List.getElem?_set_ne (by omega), List.getElem?_set_self (by first | omega | (simp; omega))], by rw [List.getElem?_set_ne (by omega), List.getElem?_set_ne (by omega), List.getElem?_set_self (by first | omega | (simp; omega))]⟩
    · rw [sw_ne f ei ej]
      obtain ⟨h1, h2⟩ := h k hk
      exact ⟨by rw [List.getElem?_set_ne (by omega), List.getElem?_set_ne (by omega), List.getElem?_set_ne (by omega), List.getElem?_set_ne (by omega)]; exact h1, by rw [List.getElem?_set_ne (by omega), List.getElem?_set_ne (by omega), List.getElem?_set_ne (by omega), List.getElem?_set_ne (by omega)]; exact h2⟩
theorem own_drew {w : World} {base : Nat} {e : TypeId} {s : Nat} {v : Value} {n : Nat} {xs : List Value} (h : w.ownsRow base e s v n xs) : w.drew.ownsRow base e s v n xs := h
/-- The list is written anew, in its place or elsewhere: what else is known of the heap stays. -/
theorem Hq.again {w w' : World} {rb n n' g : Nat} {f f' : Nat → Rp} {q : Nat → Bool} (h : Hq w rb n f q) (hb : Below g w w') (hg : rb < g) {v : Value} {xs : List Value} (hc : w'.cell? ⟨rb, 0, none⟩ = some v) (ho : w'.ownsRow (rb + 1) 65 2 v n' xs) (hx : RowF xs f' n') : Hq w' rb n' f' q :=
  ⟨⟨v, xs, hc, ho, hx⟩, fun j hj => by rw [hb.cell (p := ⟨rb, j + 1, none⟩) hg]; exact h.wts j hj, fun j => by rw [hb.frozen (p := ⟨rb, j, none⟩) hg]; exact h.frz j⟩

/-- The list's field is written. -/
theorem Hq.store {w : World} {rb n n' : Nat} {f f' : Nat → Rp} {q : Nat → Bool} (h : Hq w rb n f q) {v : Value} {xs : List Value} (ho : w.ownsRow (rb + 1) 65 2 v n' xs) (hx : RowF xs f' n') : Hq (w.setCell ⟨rb, 0, none⟩ v) rb n' f' q := by
  obtain ⟨v0, xs0, h1, _⟩ := h.lst
  have hgr : w.grownBy (w.setCell ⟨rb, 0, none⟩ v) (some rb) := ⟨rfl, rfl, rfl, by simp, fun k _ hk => heap_setCell_other w ⟨rb, 0, none⟩ k v (fun e => hk (by simp [e]))⟩
  refine ⟨⟨v, xs, World.cell?_setCell_same _ _ _ h1, ho.kept hgr ?_, hx⟩, fun j hj => ?_, fun j => ?_⟩
  · rcases ho.2 with ⟨rfl, _⟩ | ⟨g, cap, cur, rfl, hg, _⟩
    · exact .inl rfl
    · right
      show some g ≠ some rb
      intro e
      have := Option.some.inj e
      omega
  · rw [World.cell?_setCell_other _ _ _ _ (by simp)]
    exact h.wts j hj
  · rw [World.frozen?_setCell]
    exact h.frz j

theorem frh_set {w : World} {rb : Nat} {u v : Value} (hc : w.cell? ⟨rb, 0, none⟩ = some u) (he : v.ownBlock = u.ownBlock) : FrH rb w (w.setCell ⟨rb, 0, none⟩ v) := by
  have hgr : w.grownBy (w.setCell ⟨rb, 0, none⟩ v) (some rb) := ⟨rfl, rfl, rfl, by simp, fun k _ hk => heap_setCell_other w ⟨rb, 0, none⟩ k v (fun e => hk (by simp [e]))⟩
  refine ⟨(Below.refl rb w).setCell (p := ⟨_, _, _⟩) (Nat.le_refl _) _, fun k hk ho => ⟨hgr.block k hk (fun e => ho.1 (Option.some.inj e)), ho.1, fun x hx => ?_⟩⟩
  rw [World.cell?_setCell_same _ _ _ hc] at hx
  cases hx
  rw [he]
  exact ho.2 _ hc

set_option maxRecDepth 20000 in
set_option maxHeartbeats 8000000 in
theorem swap_any (rb n : Nat) (f : Nat → Rp) (q : Nat → Bool) (i j : Nat) (w : World) (h : Hq w rb n f q) (hi : i < n) (hj : j < n) (hij : i ≠ j) :
    Calls Try.prog 72 #[.pointer (some ⟨rb, 0, none⟩), .int .i64 i, .int .i64 j] w fun e w' => (∃ v, e = .returned v) ∧ Hq w' rb n (swF f i j) q ∧ FrH rb w w' := by
  obtain ⟨g, cap, xs, h1, h2, h3, hrg, hg, hc, hm⟩ := h.row (by omega)
  obtain ⟨a1, a2⟩ := h3.cells h2 i hi
  obtain ⟨b1, b2⟩ := h3.cells h2 j hj
  have f1 := h2.frozenAt (i * 2)
  have f2 := h2.frozenAt (i * 2 + 1)
  have f3 := h2.frozenAt (j * 2)
  have f4 := h2.frozenAt (j * 2 + 1)
  have hrb := h.lt
  unfold maxLen at hm
  have HE : Hid (∀ p1 p2 s1 s2, p1 = (f i).1 → p2 = (f i).2 → s1 = (f j).1 → s2 = (f j).2 → Hq (((((w.setCell ⟨g, i * 2, none⟩ (.int .i64 s1)).setCell ⟨g, i * 2 + 1, none⟩ (.int .i64 s2)).setCell ⟨g, j * 2, none⟩ (.int .i64 p1)).setCell ⟨g, j * 2 + 1, none⟩ (.int .i64 p2)).drew) rb n (swF f i j) q ∧ FrH rb w (((((w.setCell ⟨g, i * 2, none⟩ (.int .i64 s1)).setCell ⟨g, i * 2 + 1, none⟩ (.int .i64 s2)).setCell ⟨g, j * 2, none⟩ (.int .i64 p1)).setCell ⟨g, j * 2 + 1, none⟩ (.int .i64 p2)).drew)) := by
    rintro p1 p2 s1 s2 rfl rfl rfl rfl
    have t1 := (h2.stored (i * 2) (.int .i64 (f j).1)).1
    have t2 := (t1.stored (i * 2 + 1) (.int .i64 (f j).2)).1
    have t3 := (t2.stored (j * 2) (.int .i64 (f i).1)).1
    have t4 := (t3.stored (j * 2 + 1) (.int .i64 (f i).2)).1
    have hb : Below g w (((((w.setCell ⟨g, i * 2, none⟩ (.int .i64 (f j).1)).setCell ⟨g, i * 2 + 1, none⟩ (.int .i64 (f j).2)).setCell ⟨g, j * 2, none⟩ (.int .i64 (f i).1)).setCell ⟨g, j * 2 + 1, none⟩ (.int .i64 (f i).2)).drew) :=
      (((((Below.refl g w).setCell (p := ⟨_, _, _⟩) (Nat.le_refl _) _).setCell (p := ⟨_, _, _⟩) (Nat.le_refl _) _).setCell (p := ⟨_, _, _⟩) (Nat.le_refl _) _).setCell (p := ⟨_, _, _⟩) (Nat.le_refl _) _).drew
    refine ⟨h.again hb hrg (by rw [hb.cell (p := ⟨rb, 0, none⟩) hrg]; exact h1) (own_drew t4) (h3.swap h2.1 hi hj hij), hb.mono (by omega), fun k hk ho => ⟨?_, ho.1, fun v hv => ho.2 v (by rw [← hb.cell (p := ⟨rb, 0, none⟩) hrg]; exact hv)⟩⟩
    have hkg : (some g : Option Nat) ≠ some k := ho.2 _ h1
    have u1 := (h2.stored (i * 2) (.int .i64 (f j).1)).2.block k hk hkg.symm
    have u2 := (t1.stored (i * 2 + 1) (.int .i64 (f j).2)).2.block k (by simpa using hk) hkg.symm
    have u3 := (t2.stored (j * 2) (.int .i64 (f i).1)).2.block k (by simpa using hk) hkg.symm
    have u4 := (t3.stored (j * 2 + 1) (.int .i64 (f i).2)).2.block k (by simpa using hk) hkg.symm
    exact u4.trans (u3.trans (u2.trans u1))
  clear h2 h3 h
  have HE2 := hide (HE.out _ _ _ _ rfl rfl rfl rfl)
  clear HE
  generalize (f i).1 = p1 at *
  generalize (f i).2 = p2 at *
  generalize (f j).1 = s1 at *
  generalize (f j).2 = s2 at *
  have hi' : (i : Int) < n := by omega
  have hj' : (j : Int) < n := by omega
  go_enter Try.func72, Try.ntmps72
  go_wp2_with fail
  go_region
  go_wp2_with fail
  exact bodyPost_end (results_none Try.results72 _ _ _) rfl ⟨⟨_, rfl⟩, HE2.out⟩
set_option maxRecDepth 20000 in
set_option maxHeartbeats 8000000 in
theorem swap_same (rb n : Nat) (f : Nat → Rp) (q : Nat → Bool) (i : Nat) (w : World) (h : Hq w rb n f q) (hi : i < n) :
    Calls Try.prog 72 #[.pointer (some ⟨rb, 0, none⟩), .int .i64 i, .int .i64 i] w fun e w' => (∃ v, e = .returned v) ∧ Hq w' rb n (swF f i i) q ∧ FrH rb w w' := by
  obtain ⟨g, cap, xs, h1, h2, h3, hrg, hg, hc, hm⟩ := h.row (by omega)
  obtain ⟨a1, a2⟩ := h3.cells h2 i hi
  have f1 := h2.frozenAt (i * 2)
  have f2 := h2.frozenAt (i * 2 + 1)
  have hrb := h.lt
  unfold maxLen at hm
  have hsw : swF f i i = f := by
    funext k
    unfold swF
    by_cases e : k = i
    · rw [if_pos e, e]
    · rw [if_neg e, if_neg e]
  rw [hsw]
  have HE : Hid (∀ p1 p2, p1 = (f i).1 → p2 = (f i).2 → ∀ W, W = ((((w.setCell ⟨g, i * 2, none⟩ (.int .i64 p1)).setCell ⟨g, i * 2 + 1, none⟩ (.int .i64 p2)).setCell ⟨g, i * 2, none⟩ (.int .i64 p1)).setCell ⟨g, i * 2 + 1, none⟩ (.int .i64 p2)).drew → Hq W rb n f q ∧ FrH rb w W) := by
    rintro p1 p2 rfl rfl W rfl
    have t1 := (h2.stored (i * 2) (.int .i64 (f i).1)).1
    have t2 := (t1.stored (i * 2 + 1) (.int .i64 (f i).2)).1
    have t3 := (t2.stored (i * 2) (.int .i64 (f i).1)).1
    have t4 := (t3.stored (i * 2 + 1) (.int .i64 (f i).2)).1
    have hb : Below g w (((((w.setCell ⟨g, i * 2, none⟩ (.int .i64 (f i).1)).setCell ⟨g, i * 2 + 1, none⟩ (.int .i64 (f i).2)).setCell ⟨g, i * 2, none⟩ (.int .i64 (f i).1)).setCell ⟨g, i * 2 + 1, none⟩ (.int .i64 (f i).2)).drew) :=
      (((((Below.refl g w).setCell (p := ⟨_, _, _⟩) (Nat.le_refl _) _).setCell (p := ⟨_, _, _⟩) (Nat.le_refl _) _).setCell (p := ⟨_, _, _⟩) (Nat.le_refl _) _).setCell (p := ⟨_, _, _⟩) (Nat.le_refl _) _).drew
    have hx : RowF ((((xs.set (i * 2) (.int .i64 (f i).1)).set (i * 2 + 1) (.int .i64 (f i).2)).set (i * 2) (.int .i64 (f i).1)).set (i * 2 + 1) (.int .i64 (f i).2)) f n := by
      have hl := h2.1
      intro k hk
      by_cases ei : k = i
      · subst ei
        exact ⟨by rw [List.getElem?_set_ne (by omega), List.getElem?_set_self (by first | omega | (simp; omega))], by rw [List.getElem?_set_self (by first | omega | (simp; omega))]⟩
      · obtain ⟨x1, x2⟩ := h3 k hk
        exact ⟨by rw [List.getElem?_set_ne (by omega), List.getElem?_set_ne (by omega), List.getElem?_set_ne (by omega), List.getElem?_set_ne (by omega)]; exact x1, by rw [List.getElem?_set_ne (by omega), List.getElem?_set_ne (by omega), List.getElem?_set_ne (by omega), List.getElem?_set_ne (by omega)]; exact x2⟩
    refine ⟨h.again hb hrg (by rw [hb.cell (p := ⟨rb, 0, none⟩) hrg]; exact h1) (own_drew t4) hx, hb.mono (by omega), fun k hk ho => ⟨?_, ho.1, fun v hv => ho.2 v (by rw [← hb.cell (p := ⟨rb, 0, none⟩) hrg]; exact hv)⟩⟩
    have hkg : (some g : Option Nat) ≠ some k := ho.2 _ h1
    have u1 := (h2.stored (i * 2) (.int .i64 (f i).1)).2.block k hk hkg.symm
    have u2 := (t1.stored (i * 2 + 1) (.int .i64 (f i).2)).2.block k (by simpa using hk) hkg.symm
    have u3 := (t2.stored (i * 2) (.int .i64 (f i).1)).2.block k (by simpa using hk) hkg.symm
    have u4 := (t3.stored (i * 2 + 1) (.int .i64 (f i).2)).2.block k (by simpa using hk) hkg.symm
    exact u4.trans (u3.trans (u2.trans u1))
  clear h2 h3 h hsw
  have HE2 := hide (HE.out _ _ rfl rfl)
  clear HE
  generalize (f i).1 = p1 at *
  generalize (f i).2 = p2 at *
  have hi' : (i : Int) < n := by omega
  go_enter Try.func72, Try.ntmps72
  go_wp2_with fail
  go_region
  go_wp2_with fail
  exact bodyPost_end (results_none Try.results72 _ _ _) rfl ⟨⟨_, rfl⟩, HE2.out _ rfl⟩
/-- One less. -/
theorem row_less {w : World} {base g n cap : Nat} {e : TypeId} {xs : List Value} (h : w.ownsRow base e 2 (.slice (some ⟨g, 0, none⟩) (n + 1) cap) (n + 1) xs) : w.ownsRow base e 2 (.slice (some ⟨g, 0, none⟩) n cap) n (xs.take (n * 2)) := by
  rcases h.2 with ⟨h', _⟩ | ⟨g', cap', cur, h', h1, h2, h3, h4, h5, h6⟩
  · simp at h'
  · simp only [Value.slice.injEq, Option.some.injEq, Addr.mk.injEq, and_true, true_and] at h'
    obtain ⟨rfl, rfl⟩ := h'
    have hl := h.1
    refine ⟨by rw [List.length_take]; omega, .inr ⟨g, cap, cur, rfl, h1, h2, by omega, h4, h5, ?_⟩⟩
    rw [← h6, List.take_take, Nat.min_eq_left (by omega)]
theorem RowF.less {xs : List Value} {f : Nat → Rp} {n : Nat} (h : RowF xs f (n + 1)) : RowF (xs.take (n * 2)) f n := fun k hk => by
  obtain ⟨h1, h2⟩ := h k (by omega)
  exact ⟨by rw [List.getElem?_take, if_pos (by omega)]; exact h1, by rw [List.getElem?_take, if_pos (by omega)]; exact h2⟩

set_option maxRecDepth 20000 in
set_option maxHeartbeats 8000000 in
theorem popM_any (rb n : Nat) (f : Nat → Rp) (q : Nat → Bool) (w : World) (h : Hq w rb (n + 1) f q) :
    Calls Try.prog 70 #[.pointer (some ⟨rb, 0, none⟩)] w fun e w' => (∃ v, e = .returned v) ∧ Hq w' rb n f q ∧ FrH rb w w' := by
  obtain ⟨g, cap, xs, h1, h2, h3, hrg, hg, hc, hm⟩ := h.row (by omega)
  obtain ⟨a1, a2⟩ := h3.cells h2 n (by omega)
  have f0 := h.frz 0
  have hrb := h.lt
  unfold maxLen at hm
  have HH := hide h
  have H2 := hide h2
  have H3 := hide h3
  clear h2 h3 h
  generalize (f n).1 = p1 at *
  generalize (f n).2 = p2 at *
  have hw1 : IntKind.i64.wrap (((n + 1 : Nat) : Int) - 1) = (n : Int) := by rw [IntKind.wrap_i64]; omega
  have hw2 : ((n + 1 : Nat) : Int) - 1 = (n : Int) := by omega
  go_enter Try.func70, Try.ntmps70
  go_wp2_with fail
  go_region
  go_wp2_with fail
  go_region
  go_wp2_with fail
  go_ret
  exact ⟨⟨_, rfl⟩, ((HH.out.store (row_less H2.out) H3.out.less).keep (((bel_alloc (Below.refl _ _) _).drew).drew)), (frh_set (v := .slice (some ⟨g, 0, none⟩) n cap) h1 rfl).trans (FrH.keep (((bel_alloc (Below.refl _ _) _).drew).drew) (by simpa using hrb))⟩

theorem Try.info65 : (Try.prog.info? 65).map (fun i => (i.zero, i.size, i.bytes)) = some (some (.agg #[.int .i64 0, .int .i64 0]), 2, 16) := by kernel_rfl
theorem Try.as65_65 (v : Value) (w : World) : (Instr.typeAssert (.iface 65 v) 20 65 true).run Try.prog w = .ok (.tuple #[v, .bool true]) w := by kernel_rfl
theorem RowF.snoc {xs : List Value} {f : Nat → Rp} {n : Nat} {p : Rp} (hl : xs.length = n * 2) (h : RowF xs f n) : RowF (xs ++ [.int .i64 p.1, .int .i64 p.2]) (snF f n p) (n + 1) := fun k hk => by
  by_cases e : k = n
  · subst e
    have e1 : snF f k p k = p := by simp [snF]
    rw [e1]
    exact ⟨by rw [List.getElem?_append_right (by omega)]; simp [hl], by rw [List.getElem?_append_right (by omega)]; simp [hl]⟩
  · have e1 : snF f n p k = f k := by simp [snF, e]
    rw [e1]
    obtain ⟨h1, h2⟩ := h k (by omega)
    exact ⟨by rw [List.getElem?_append_left (by omega)]; exact h1, by rw [List.getElem?_append_left (by omega)]; exact h2⟩
theorem alloc1_block (w : World) (o : Obj) : ((w.alloc o).drew).heap[w.heap.size]? = some o := by
  show (w.heap.push o)[w.heap.size]? = some o
  simp
theorem row_shape {w : World} {base n : Nat} {e : TypeId} {s : Nat} {v : Value} {xs : List Value} (h : w.ownsRow base e s v n xs) : ∃ a c, v = .slice a n c := by
  rcases h.2 with ⟨rfl, rfl⟩ | ⟨g, cap, cur, rfl, _⟩
  · exact ⟨_, _, rfl⟩
  · exact ⟨_, _, rfl⟩

/-- The heap anew, part by part. -/
theorem Hq.restore {w : World} {rb n : Nat} {f : Nat → Rp} {q : Nat → Bool} (hw : ∀ j, j < 31 → w.cell? ⟨rb, j + 1, none⟩ = some (.bool (q j))) (hf : ∀ j, w.frozen? ⟨rb, j, none⟩ = false) {u v : Value} (hc : w.cell? ⟨rb, 0, none⟩ = some u) {xs : List Value} (ho : w.ownsRow (rb + 1) 65 2 v n xs) (hx : RowF xs f n) : Hq (w.setCell ⟨rb, 0, none⟩ v) rb n f q := by
  have hgr : w.grownBy (w.setCell ⟨rb, 0, none⟩ v) (some rb) := ⟨rfl, rfl, rfl, by simp, fun k _ hk => heap_setCell_other w ⟨rb, 0, none⟩ k v (fun e => hk (by simp [e]))⟩
  refine ⟨⟨v, xs, World.cell?_setCell_same _ _ _ hc, ho.kept hgr ?_, hx⟩, fun j hj => ?_, fun j => ?_⟩
  · rcases ho.2 with ⟨rfl, _⟩ | ⟨g, cap, cur, rfl, hg, _⟩
    · exact .inl rfl
    · right
      show some g ≠ some rb
      intro e
      have := Option.some.inj e
      omega
  · rw [World.cell?_setCell_other _ _ _ _ (by simp)]
    exact hw j hj
  · rw [World.frozen?_setCell]
    exact hf j
theorem far_cell {w w' : World} {row : Option Nat} {b o : Nat} {v : Value} (hg : w.grownBy w' row) (hne : some b ≠ row) (h : w.cell? ⟨b, o, none⟩ = some v) : w'.cell? ⟨b, o, none⟩ = some v :=
  (hg.cell_far ⟨b, o, none⟩ (lt_cell h) hne).trans h

set_option maxRecDepth 20000 in
set_option maxHeartbeats 8000000 in
theorem pushM_any (rb n : Nat) (f : Nat → Rp) (q : Nat → Bool) (p1 p2 : Int) (w : World) (h : Hq w rb n f q) (hn : n ≤ 1000) :
    Calls Try.prog 71 #[.pointer (some ⟨rb, 0, none⟩), .iface 65 (.agg #[.int .i64 p1, .int .i64 p2])] w fun e w' => (∃ v, e = .returned v) ∧ Hq w' rb (n + 1) (snF f n (p1, p2)) q ∧ FrH rb w w' := by
  obtain ⟨v, xs, h1, h2, h3⟩ := h.lst
  obtain ⟨i65, hi65, hz65, hs65, hb65⟩ := info_parts Try.info65
  obtain ⟨a, c, rfl⟩ := row_shape h2
  have hrb := h.lt
  have HH := hide h
  have H2 := hide h2
  have H3 := hide h3
  clear h2 h3 h
  have has := Try.as65_65
  go_enter Try.func71, Try.ntmps71
  go_wp2_with fail
  have HBW : Hid (Below w.heap.size w (w.alloc (.cells #[.int .i64 p1, .int .i64 p2] 65))) := bel_alloc (Below.refl _ _) _
  have HHW := hide (HH.out.keep HBW.out)
  have H2W := hide (row_keep HBW.out H2.out)
  have c0 := keep_cell HBW.out h1
  have d1 : (w.alloc (.cells #[.int .i64 p1, .int .i64 p2] 65)).cell? ⟨w.heap.size, 0, none⟩ = some (.int .i64 p1) := by rw [World.cell?_alloc_new]; rfl
  have d2 : (w.alloc (.cells #[.int .i64 p1, .int .i64 p2] 65)).cell? ⟨w.heap.size, 1, none⟩ = some (.int .i64 p2) := by rw [World.cell?_alloc_new]; rfl
  have hWs : rb + 1 ≤ (w.alloc (.cells #[.int .i64 p1, .int .i64 p2] 65)).heap.size := by simp; omega
  have HRB := hide hrb
  have HBL := H2
  clear HH H2 h1 hrb has
  generalize w.alloc (.cells #[.int .i64 p1, .int .i64 p2] 65) = W at *
  obtain ⟨gb, hgb⟩ : ∃ gb, gb = w.heap.size := ⟨_, rfl⟩
  have HGB : Hid (∀ r, (Value.slice a n c).ownBlock = some r → r ≠ gb) := by
    intro r hr e
    rcases HBL.out.2 with ⟨h', _⟩ | ⟨g, cap, cur, h', _, hg, _⟩
    · rw [h'] at hr; cases hr
    · rw [h'] at hr
      have e2 : g = r := by simpa [Value.ownBlock] using hr
      have := (Array.getElem?_eq_some_iff.1 hg).1
      omega
  rw [← hgb] at d1 d2 ⊢
  clear hgb HBL
  have hS0 : (fun w' : World => w'.cell? ⟨rb, 0, none⟩ = some (.slice a n c) ∧ w'.cell? ⟨gb, 0, none⟩ = some (.int .i64 p1) ∧ w'.cell? ⟨gb, 1, none⟩ = some (.int .i64 p2)) W.drew := ⟨c0, d1, d2⟩
  refine anyE_region (L := 10) (S := fun w' : World => w'.cell? ⟨rb, 0, none⟩ = some (.slice a n c) ∧ w'.cell? ⟨gb, 0, none⟩ = some (.int .i64 p1) ∧ w'.cell? ⟨gb, 1, none⟩ = some (.int .i64 p2)) (by kernel_rfl) ?_
  refine anyE_take 0 (v := ?v1) rfl (by kernel_rfl) (by kernel_rfl) (by kernel_rfl) (by kernel_rfl) (fun _ _ _ h => h) (by rfl) ?hy1 hS0 ?rest1
  case hy1 =>
    intro wx hx
    obtain ⟨z1, z2, z3⟩ := hx
    go_simp
    try rfl
  case rest1 =>
  intro K hK
  go_simp
  refine hK.out _ ?_
  clear hK K
  refine anyE_take 1 (v := ?v2) rfl (by kernel_rfl) (by kernel_rfl) (by kernel_rfl) (by kernel_rfl) (fun _ _ _ h => h) (by rfl) ?hy2 hS0 ?rest2
  case hy2 =>
    intro wx hx
    obtain ⟨z1, z2, z3⟩ := hx
    go_simp
    try rfl
  case rest2 =>
  intro K hK
  go_simp
  refine hK.out _ ?_
  clear hK K
  refine anyE_take 2 (v := ?v3) rfl (by kernel_rfl) (by kernel_rfl) (by kernel_rfl) (by kernel_rfl) (fun _ _ _ h => h) (by rfl) ?hy3 hS0 ?rest3
  case hy3 =>
    intro wx hx
    obtain ⟨z1, z2, z3⟩ := hx
    go_simp
    try rfl
  case rest3 =>
  intro K hK
  go_simp
  refine hK.out _ ?_
  clear hK K
  refine anyE_take 3 (v := ?v4) rfl (by kernel_rfl) (by kernel_rfl) (by kernel_rfl) (by kernel_rfl) (fun _ _ _ h => h) (by rfl) ?hy4 hS0 ?rest4
  case hy4 =>
    intro wx hx
    obtain ⟨z1, z2, z3⟩ := hx
    go_simp
    try rfl
  case rest4 =>
  intro K hK
  go_simp
  refine hK.out _ ?_
  clear hK K
  refine anyE_take 4 (v := ?v5) rfl (by kernel_rfl) (by kernel_rfl) (by kernel_rfl) (by kernel_rfl) (fun _ _ _ h => h) (by rfl) ?hy5 hS0 ?rest5
  case hy5 =>
    intro wx hx
    obtain ⟨z1, z2, z3⟩ := hx
    go_simp
    try rfl
  case rest5 =>
  intro K hK
  go_simp
  refine hK.out _ ?_
  clear hK K
  refine anyE_take 5 (v := ?v6) rfl (by kernel_rfl) (by kernel_rfl) (by kernel_rfl) (by kernel_rfl) (fun _ _ _ h => h) (by rfl) ?hy6 hS0 ?rest6
  case hy6 =>
    intro wx hx
    obtain ⟨z1, z2, z3⟩ := hx
    go_simp
    try rfl
  case rest6 =>
  intro K hK
  go_simp
  refine hK.out _ ?_
  clear hK K
  refine anyE_one 6 (by kernel_rfl) rfl (fun K hK => ?_)
  go_simp
  have hb1 : Below W.heap.size W ((W.alloc (.cells #[.int .i64 p1, .int .i64 p2] 65)).drew) := (bel_alloc (Below.refl _ _) _).drew
  have HO1 := hide (row_keep hb1 H2W.out)
  have HQ1 := hide (HHW.out.keep hb1)
  refine hK.out _ _ (fun _ => ⟨keep_cell hb1 c0, keep_cell hb1 d1, keep_cell hb1 d2⟩) ?_
  clear hK K
  refine anyE_one 7 (by kernel_rfl) rfl (fun K hK => ?_)
  refine step_append_lies _ (by rfl) _ _ _ (by rfl) (rb + 1) 65 i65 (.agg #[.int .i64 0, .int .i64 0]) 2 16 Try.underlying60 hi65 hz65 hs65 hb65 rfl (by omega) (.slice a n c) n xs (by rfl) HO1.out ⟨W.heap.size, 0, none⟩ 1 1 [.int .i64 p1, .int .i64 p2] (by rfl) (by rfl) (World.news_of_block (cs := #[.int .i64 p1, .int .i64 p2]) (t := 65) (fr := (0, 0)) (alloc1_block W _)) (by intro u hu; simp at hu; rcases hu with rfl | rfl <;> rfl) (by omega) (by unfold maxLen; omega) (by omega) (by simp; omega) (W.heap.size + 1) (by simp) ?_
  intro g4 cap4 w4 hown4 hgrow4 hat4 hlt4
  have hne : ∀ r, (Value.slice a n c).ownBlock = some r → rb < r := by
    intro r hr
    rcases HO1.out.2 with ⟨h', _⟩ | ⟨g, cap, cur, h', hg, _⟩
    · rw [h'] at hr; cases hr
    · rw [h'] at hr
      have : g = r := by simpa [Value.ownBlock] using hr
      omega
  have hb4 : Below (rb + 1) ((W.alloc (.cells #[.int .i64 p1, .int .i64 p2] 65)).drew) w4 := (Below.refl _ _).grown hgrow4 (by simp; omega) (fun k hk => by have := hne k hk; omega)
  have c4 : w4.cell? ⟨rb, 0, none⟩ = some (.slice a n c) := by rw [hb4.cell (p := ⟨rb, 0, none⟩) (by show rb < rb + 1; omega)]; exact keep_cell hb1 c0
  have fz4 : w4.frozen? ⟨rb, 0, none⟩ = false := by rw [hb4.frozen (p := ⟨rb, 0, none⟩) (by show rb < rb + 1; omega)]; exact HQ1.out.frz 0
  have HN := hide (H3.out.snoc (p := (p1, p2)) HO1.out.1)
  have HQ4 : Hid (Hq (w4.setCell ⟨rb, 0, none⟩ (.slice (some ⟨g4, 0, none⟩) (n + 1) cap4)) rb (n + 1) (snF f n (p1, p2)) q ∧ FrH rb w (w4.setCell ⟨rb, 0, none⟩ (.slice (some ⟨g4, 0, none⟩) (n + 1) cap4))) := by
    refine ⟨?_, ?_⟩
    · exact Hq.restore (fun j hj => by rw [hb4.cell (p := ⟨rb, j + 1, none⟩) (by show rb < rb + 1; omega)]; exact HQ1.out.wts j hj) (fun j => by rw [hb4.frozen (p := ⟨rb, j, none⟩) (by show rb < rb + 1; omega)]; exact HQ1.out.frz j) c4 hown4 HN.out
    · have hr := HRB.out
      have hbl : Below rb w w4 := ((HBW.out.mono (Nat.le_of_lt hr)).trans (hb1.mono (by omega))).trans (hb4.mono (by omega))
      have hgr : w4.grownBy (w4.setCell ⟨rb, 0, none⟩ (.slice (some ⟨g4, 0, none⟩) (n + 1) cap4)) (some rb) := ⟨rfl, rfl, rfl, by simp, fun k _ hk => heap_setCell_other w4 ⟨rb, 0, none⟩ k _ (fun e => hk (by simp [e]))⟩
      refine ⟨hbl.setCell (p := ⟨rb, 0, none⟩) (Nat.le_refl _) _, fun k hk ho => ?_⟩
      have o0 : Off W rb k := ⟨ho.1, fun v hv => ho.2 v (by rw [← HBW.out.cell (p := ⟨rb, 0, none⟩) hr]; exact hv)⟩
      have hkv := o0.2 _ c0
      have s1 := HBW.out.size
      have s2 := hgrow4.size
      have hsz : ((W.alloc (.cells #[.int .i64 p1, .int .i64 p2] 65)).drew).heap.size = W.heap.size + 1 := by simp
      refine ⟨(hgr.block k (by omega) (fun e => ho.1 (Option.some.inj e))).trans ((hgrow4.block k (by omega) (fun e => hkv e.symm)).trans ((hb1.block k (by omega)).trans (HBW.out.block k hk))), ho.1, fun x hx => ?_⟩
      rw [World.cell?_setCell_same _ _ _ c4] at hx
      cases hx
      show some g4 ≠ some k
      rcases hat4 with e | e
      · rw [← e]; exact hkv
      · intro e2
        have := Option.some.inj e2
        omega
  have e1 : w4.cell? ⟨gb, 0, none⟩ = some (.int .i64 p1) := far_cell hgrow4 (fun e => HGB.out _ e.symm rfl) (keep_cell hb1 d1)
  have e2 : w4.cell? ⟨gb, 1, none⟩ = some (.int .i64 p2) := far_cell hgrow4 (fun e => HGB.out _ e.symm rfl) (keep_cell hb1 d2)
  clear hown4 hgrow4 hat4 hlt4 hb4 HN hne
  go_simp
  refine hK.out _ _ (fun _ => ⟨c4, e1, e2⟩) ?_
  clear hK K
  refine anyE_one 8 (by kernel_rfl) rfl (fun K hK => ?_)
  go_simp
  refine hK.out _ _ (fun _ => ⟨c4, e1, e2⟩) ?_
  clear hK K
  refine anyE_one 9 (by kernel_rfl) rfl (fun K hK => ?_)
  go_simp
  refine hK.out _ _ (fun _ => ⟨c4, e1, e2⟩) ?_
  clear hK K
  refine anyE_one 10 (by kernel_rfl) rfl (fun K hK => ?_)
  go_simp
  refine hK.out _ _ (fun h => absurd rfl h) ?_
  clear hK K
  refine anyE_done (by kernel_rfl) ?_ _
  clear c4 fz4
  go_wp2_with fail
  exact bodyPost_end (results_none Try.results71 _ _ _) rfl ⟨⟨_, rfl⟩, HQ4.out⟩
end Go.Proofs.Yteedainidoldoaa
