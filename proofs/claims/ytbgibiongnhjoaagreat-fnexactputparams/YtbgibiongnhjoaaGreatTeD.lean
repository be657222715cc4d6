/- What the functions that termOf hands to fold answer: one node more behind a term of the call's own. -/
import Derived.Test.YtbgibiongnhjoaaGreatTeB
import Derived.Test.YtbgibiongnhjoaaGreatStH
import Derived.Test.YtbgibiongnhjoaaGreatStG
namespace Go.Proofs.YtbgibiongnhjoaaGreat
open Go.ChangeShapes Go.WideShapes Go.ChangeAt Go.RowKit

/-- Of what was there only the block nb, and rows of nodes from block lo on, may have changed. -/
structure KeptT (lo nb : Nat) (w w' : World) : Prop where
  os : w'.os = w.os
  tape : w'.tape = w.tape
  output : w'.output = w.output
  size : w.heap.size ≤ w'.heap.size
  block : ∀ k, k < w.heap.size → k ≠ nb → (k < lo ∨ ∀ cs f, w.heap[k]? ≠ some (.cells cs 67 f)) → w'.heap[k]? = w.heap[k]?
theorem KeptT.trans {lo nb : Nat} {a b c : World} (h : KeptT lo nb a b) (k : KeptT lo nb b c) : KeptT lo nb a c :=
  ⟨k.os.trans h.os, k.tape.trans h.tape, k.output.trans h.output, Nat.le_trans h.size k.size, fun i hi hn hc => by
    have e := h.block i hi hn hc
    rw [k.block i (Nat.lt_of_lt_of_le hi h.size) hn (by rw [e]; exact hc), e]⟩
theorem KeptT.of {lo nb : Nat} {w w' : World} (h : Below w.heap.size w w') : KeptT lo nb w w' := ⟨h.os, h.tape, h.output, h.size, fun k hk _ _ => h.block k hk⟩
theorem KeptT.below {lo nb B : Nat} {a w w' : World} (h : KeptT lo nb w w') (hb : Below B a w) (hB : B ≤ w.heap.size) (h1 : B ≤ lo) (h2 : B ≤ nb) : Below B a w' :=
  ⟨h.os.trans hb.os, h.tape.trans hb.tape, h.output.trans hb.output, Nat.le_trans hb.size h.size, fun k hk => (h.block k (by omega) (by omega) (.inl (by omega))).trans (hb.block k hk)⟩
/-- One node more behind a row of nodes. -/
theorem TmV.snoc {lo : Nat} {w W w4 : World} {v lv kv : Value} {g4 cap4 : Nat} {ts : List Td} {td : Td} {xs : List Value} {s t : Nat → Nat} (hlo : lo ≤ w.heap.size) (hbw : Below w.heap.size w W) (h1 : w.ownsRow lo 67 6 v ts.length xs) (h2 : Rg ts.length lo w.heap.size s t) (h3 : ∀ b, v.ownBlock = some b → b < w.heap.size ∧ ∀ i, i < ts.length → b < s i ∨ t i ≤ b) (h4 : ∀ i (h : i < ts.length), TdK (s i) (t i) w xs i ts[i])
    (hu : TdV w.heap.size W.heap.size W lv kv td) (hg : W.grownBy w4 v.ownBlock) (hat : v.ownBlock = some g4 ∨ W.heap.size ≤ g4) (hlt : g4 < w4.heap.size) (h5 : w4.ownsRow lo 67 6 (.slice (some ⟨g4, 0, none⟩) (ts.length + 1) cap4) (ts.length + 1) (xs ++ [.int .i64 td.k, .int .i64 td.n, .int .i64 td.m, .string td.s, lv, kv])) : TmV lo w4.heap.size w4 (.slice (some ⟨g4, 0, none⟩) (ts.length + 1) cap4) (ts ++ [td]) := by
  have hl := h1.1
  have hsz := hbw.size
  have hsz4 := hg.size
  have hvb : ∀ b, v.ownBlock = some b → b < w.heap.size := fun b hb => (h3 b hb).1
  refine ⟨_, rput s ts.length w.heap.size, rput t ts.length W.heap.size, by simpa using h5, by simpa using h2.snoc hlo (Nat.le_refl _) hsz hsz4, fun b hb => ?_, fun i hi => ?_⟩
  · have e : b = g4 := by simp [Value.ownBlock] at hb; omega
    subst e
    refine ⟨hlt, fun i hi => ?_⟩
    by_cases e : i = ts.length
    · subst e
      rw [rput_at, rput_at]
      rcases hat with h | h
      · have := hvb b h; omega
      · omega
    · have hi' : i < ts.length := by simp at hi; omega
      rw [rput_ne s _ e, rput_ne t _ e]
      rcases hat with h | h
      · exact (h3 b h).2 i hi'
      · have := h2.1 i hi'; omega
  · by_cases e : i < ts.length
    · have hr := h2.1 i e
      rw [List.getElem_append_left e, rput_ne s _ (by omega), rput_ne t _ (by omega)]
      have h6 := (h4 i e).same (w' := w4) (fun q q1 q2 => by
        rw [hg.block q (by omega) (fun e2 => by have := (h3 q e2.symm).2 i e; omega)]
        exact hbw.block q (by omega))
      obtain ⟨a, b, c, d, lv', kv', e', f', g'⟩ := h6
      refine ⟨?_, ?_, ?_, ?_, lv', kv', ?_, ?_, g'⟩ <;> rw [List.getElem?_append_left (by omega)] <;> assumption
    · have e2 : i = ts.length := by simp at hi; omega
      subst e2
      rw [List.getElem_append_right (Nat.le_refl _), rput_at, rput_at]
      simp only [Nat.sub_self, List.getElem_cons_zero]
      have ha : ∀ o, (xs ++ [.int .i64 td.k, .int .i64 td.n, .int .i64 td.m, .string td.s, lv, kv])[ts.length * 6 + o]? = ([.int .i64 td.k, .int .i64 td.n, .int .i64 td.m, .string td.s, lv, kv] : List Value)[o]? := fun o => by
        rw [List.getElem?_append_right (by omega), hl, show ts.length * 6 + o - ts.length * 6 = o by omega]
      exact ⟨ha 0, ha 1, ha 2, ha 3, lv, kv, ha 4, ha 5, hu.same (fun q q1 q2 => hg.block q q2 (fun e2 => by have := hvb q e2.symm; omega))⟩
theorem run_small (ns : List Nd) : ∀ k st, runTo ns k = some st → ∀ i (h : i < ns.length), i < k → ns[i].kids.length ≤ 2
  | 0, _, _ => fun i _ h => by omega
  | k + 1, st, h => by
    unfold runTo at h
    split at h
    case h_2 => cases h
    rename_i st' nd h1 h2
    unfold stepN at h
    split at h
    · cases h
    rename_i hno
    simp only [not_or, Decidable.not_not] at hno
    obtain ⟨n1, n2, _, n4⟩ := hno
    intro i hi hik
    by_cases e : i = k
    · subst e
      rw [List.getElem?_eq_getElem hi] at h2
      have e2 := Option.some.inj h2
      rw [e2, n4, List.length_drop]
      have := kidsN_cases nd.k
      omega
    · exact run_small ns k st' h1 i hi (by omega)
theorem lvl_small {l : List Nd} (h : lvlB l = true) : l.length ≤ 64 ∧ ∀ nd ∈ l, nd.kids.length ≤ 2 := by
  simp only [lvlB, Bool.and_eq_true, decide_eq_true_eq] at h
  refine ⟨h.1.2, fun nd hnd => ?_⟩
  obtain ⟨i, hi, rfl⟩ := List.getElem_of_mem hnd
  cases hr : runTo l l.length with
  | none => rw [hr] at h; simp at h
  | some st => exact run_small l l.length st hr i hi hi
theorem set_one {w : World} {b : Nat} {v : Value} {e : TypeId} (h : w.heap[b]? = some (.cells #[v] e (0, 0))) (u : Value) : (w.setCell ⟨b, 0, none⟩ u).heap[b]? = some (.cells #[u] e (0, 0)) := by
  unfold World.setCell
  simp [Array.getElem?_modify, h]
/-- A term stays where a block of another kind changes. -/
theorem tmV_off {lo hi : Nat} {w w' : World} {v : Value} {ts : List Td} {nb : Nat} {cs : Array Value} (h : TmV lo hi w v ts) (hn : w.heap[nb]? = some (.cells cs 26 (0, 0))) (hh : ∀ k : Nat, k ≠ nb → w'.heap[k]? = w.heap[k]?) : TmV lo hi w' v ts := by
  have row : ∀ {base : Nat} {e : TypeId} {s n : Nat} {u : Value} {xs : List Value}, e ≠ 26 → w.ownsRow base e s u n xs → w'.ownsRow base e s u n xs := fun {base e s n u xs} he hr => row_same hr (fun g hg => hh g (fun eg => by
    rcases hr.2 with ⟨h1, _⟩ | ⟨g', cap, cur, h1, _, h4, _⟩
    · rw [h1] at hg; simp [Value.ownBlock] at hg
    · rw [h1] at hg
      have e1 : g' = g := by simpa [Value.ownBlock] using hg
      rw [e1, eg, hn] at h4
      have h5 := Option.some.inj h4
      injection h5 with _ h6 _
      exact he h6.symm))
  obtain ⟨xs, s, t, h1, h2, h3, h4⟩ := h
  refine ⟨xs, s, t, row (by decide) h1, h2, h3, fun i hi => ?_⟩
  obtain ⟨a, b, c, d, lv, kv, e, f, a', c', q1, q2, q3, ⟨ys, s', t', r1, r2, r3, r4⟩, q5, q6⟩ := h4 i hi
  refine ⟨a, b, c, d, lv, kv, e, f, a', c', q1, q2, q3, ⟨ys, s', t', row (by decide) r1, r2, r3, fun j hj => ?_⟩, row (by decide) q5, q6⟩
  obtain ⟨u, p1, zs, p2, p3, p4, p5⟩ := r4 j hj
  refine ⟨u, p1, zs, row (by decide) p2, p3, fun k hk => ?_, p5⟩
  obtain ⟨z1, z2, kv', z3, z4, z5⟩ := p4 k hk
  exact ⟨z1, z2, kv', z3, row (by decide) z4, z5⟩
set_option maxHeartbeats 1000000 in
theorem termOf1_any (b : Nat) (u : Int) (w : World) : Calls Tryz.prog 100 #[.pointer (some ⟨b, 0, none⟩), .int .i64 u] w fun e w' => e = .returned (.tuple #[.int .i64 0, .bool false]) ∧ w' = w := by
  go_enter Tryz.func100, Tryz.ntmps100
  go_wp2_with fail
  exact bodyPost_ret (v := .tuple #[.int .i64 0, .bool false]) (by simp [results, Tryz.results100, go_sem]) rfl ⟨rfl, rfl⟩
theorem run_slice_int (W : World) (b kn : Nat) (hk : kn ≤ 3) : (Instr.sliceAt 133 (.pointer (some ⟨b, 0, none⟩)) none (some (.int .i64 (kn : Int))) none).run Tryz.prog W = .ok (.slice (some ⟨b, 0, none⟩) kn 3) W := by
  rw [run_sliceAt_array_h W 133 ⟨b, 0, none⟩ (by kernel_rfl) .i64 _ (by omega) (by rw [show Tryz.prog.arrayLen 133 = 3 from by kernel_rfl]; omega)]
  simp [slicedAt, go_sem, Addr.add]
/-- The first of three numbers lie in a block. -/
theorem ints3 {w : World} {b : Nat} {x0 x1 x2 : Int} {ks : List Int} {n : Nat} (h0 : w.cell? ⟨b, 0, none⟩ = some (.int .i64 x0)) (h1 : w.cell? ⟨b, 1, none⟩ = some (.int .i64 x1)) (h2 : w.cell? ⟨b, 2, none⟩ = some (.int .i64 x2)) (hk : ks = [x0, x1, x2].take n) (hn : n ≤ 3) : IntsAt w (.slice (some ⟨b, 0, none⟩) ks.length 3) ks := by
  have hl : ks.length ≤ 3 := by rw [hk, List.length_take]; simp; omega
  refine ⟨_, 3, rfl, hl, by unfold maxLen; omega, fun _ => ⟨b, 0, rfl, fun j hj => ?_⟩⟩
  subst hk
  rw [List.getElem_take, Nat.zero_add]
  rcases (show j = 0 ∨ j = 1 ∨ j = 2 by omega) with rfl | rfl | rfl
  · exact h0
  · exact h1
  · exact h2

end Go.Proofs.YtbgibiongnhjoaaGreat

/- What fold answers with the functions that Uses hands to it. -/
namespace Go.Proofs.YtbgibiongnhjoaaGreat
open Go.ChangeShapes Go.WideShapes Go.ChangeAt Go.RowKit

/-- The first answers of the kids. -/
def kv3 (f : Nat → Int) (j q : Nat) : Int := if q < j then f q else 0
def k3 (f : Nat → Int) (j : Nat) : List Value := [.int .i64 (kv3 f j 0), .int .i64 (kv3 f j 1), .int .i64 (kv3 f j 2)]
theorem k3_set (f : Nat → Int) (j : Nat) (hj : j < 3) : (k3 f j).set j (.int .i64 (f j)) = k3 f (j + 1) := by
  rcases (show j = 0 ∨ j = 1 ∨ j = 2 by omega) with rfl | rfl | rfl <;> simp [k3, kv3]
/-- The block of the kids' answers. -/
def K3At (w : World) (b : Nat) (xs : List Value) : Prop := w.ownsRow 0 133 3 (.slice (some ⟨b, 0, none⟩) 1 1) 1 xs
theorem K3At.cell {w : World} {b : Nat} {xs : List Value} (h : K3At w b xs) (o : Nat) (ho : o < 3) : w.cell? ⟨b, o, none⟩ = xs[o]? := World.ownsRow.cellAt h o (by omega)
theorem K3At.set {w : World} {b : Nat} {xs : List Value} (h : K3At w b xs) (o : Nat) (u : Value) : K3At (w.setCell ⟨b, o, none⟩ u) b (xs.set o u) := (World.ownsRow.stored h o u).1
theorem K3At.frozen {w : World} {b : Nat} {xs : List Value} (h : K3At w b xs) (o : Nat) : w.frozen? ⟨b, o, none⟩ = false := World.ownsRow.frozenAt h o
theorem K3At.lt {w : World} {b : Nat} {xs : List Value} (h : K3At w b xs) : b < w.heap.size := (World.ownsRow.lt h b rfl).2

end Go.Proofs.YtbgibiongnhjoaaGreat

/- What fold answers with the functions that termOf hands to it: the nodes of a tree behind others. -/
namespace Go.Proofs.YtbgibiongnhjoaaGreat
open Go.ChangeShapes Go.WideShapes Go.ChangeAt Go.RowKit

/-- What is asked of the levels of a node. -/
def levP (h : Hd) (_ : Nat) : Prop := (∀ l ∈ h.lv, lvlB l = true) ∧ h.lv.length ≤ 1048576
/-- The nodes that were written so far, in the variable at nb. -/
def TmAt (lo nb : Nat) (w : World) (ts : List Td) : Prop := lo ≤ w.heap.size ∧ ∃ R cap, w.heap[nb]? = some (.cells #[.slice (some ⟨R, 0, none⟩) ts.length cap] 26 (0, 0)) ∧ TmV lo w.heap.size w (.slice (some ⟨R, 0, none⟩) ts.length cap) ts
theorem TmAt.keep {lo nb : Nat} {w w' : World} {ts : List Td} (h : TmAt lo nb w ts) (hb : Below w.heap.size w w') : TmAt lo nb w' ts := by
  obtain ⟨h0, R, cap, h1, h2⟩ := h
  exact ⟨Nat.le_trans h0 hb.size, R, cap, by rw [hb.block _ (Array.getElem?_eq_some_iff.1 h1).1]; exact h1, (h2.keep hb (Nat.le_refl _)).mono (Nat.le_refl _) hb.size⟩
theorem tmV_off' {lo hi : Nat} {w w' : World} {v : Value} {ts : List Td} {nb : Nat} {e0 : TypeId} {cs : Array Value} (h : TmV lo hi w v ts) (hn : w.heap[nb]? = some (.cells cs e0 (0, 0))) (he : e0 ≠ 67 ∧ e0 ≠ 111 ∧ e0 ≠ 174 ∧ e0 ≠ 3) (hh : ∀ k : Nat, k ≠ nb → w'.heap[k]? = w.heap[k]?) : TmV lo hi w' v ts := by
  have row : ∀ {base : Nat} {e : TypeId} {s n : Nat} {u : Value} {xs : List Value}, e0 ≠ e → w.ownsRow base e s u n xs → w'.ownsRow base e s u n xs := fun {base e s n u xs} he hr => row_same hr (fun g hg => hh g (fun eg => by
    rcases hr.2 with ⟨h1, _⟩ | ⟨g', cap, cur, h1, _, h4, _⟩
    · rw [h1] at hg; simp [Value.ownBlock] at hg
    · rw [h1] at hg
      have e1 : g' = g := by simpa [Value.ownBlock] using hg
      rw [e1, eg, hn] at h4
      have h5 := Option.some.inj h4
      injection h5 with _ h6 _
      exact he h6))
  obtain ⟨xs, s, t, h1, h2, h3, h4⟩ := h
  refine ⟨xs, s, t, row he.1 h1, h2, h3, fun i hi => ?_⟩
  obtain ⟨a, b, c, d, lv, kv, e, f, a', c', q1, q2, q3, ⟨ys, s', t', r1, r2, r3, r4⟩, q5, q6⟩ := h4 i hi
  refine ⟨a, b, c, d, lv, kv, e, f, a', c', q1, q2, q3, ⟨ys, s', t', row he.2.1 r1, r2, r3, fun j hj => ?_⟩, row he.2.2.2 q5, q6⟩
  obtain ⟨u, p1, zs, p2, p3, p4, p5⟩ := r4 j hj
  refine ⟨u, p1, zs, row he.2.2.1 p2, p3, fun k hk => ?_, p5⟩
  obtain ⟨z1, z2, kv', z3, z4, z5⟩ := p4 k hk
  exact ⟨z1, z2, kv', z3, row he.2.2.2 z4, z5⟩
theorem TmAt.off {lo nb kb : Nat} {w w' : World} {ts : List Td} {e0 : TypeId} {cs : Array Value} (h : TmAt lo nb w ts) (hn : w.heap[kb]? = some (.cells cs e0 (0, 0))) (he : e0 ≠ 67 ∧ e0 ≠ 111 ∧ e0 ≠ 174 ∧ e0 ≠ 3) (hk : kb ≠ nb) (hs : w'.heap.size = w.heap.size) (hh : ∀ k : Nat, k ≠ kb → w'.heap[k]? = w.heap[k]?) : TmAt lo nb w' ts := by
  obtain ⟨h0, R, cap, h1, h2⟩ := h
  exact ⟨by omega, R, cap, by rw [hh nb (Ne.symm hk)]; exact h1, by rw [hs]; exact tmV_off' h2 hn he hh⟩
theorem roots_get : ∀ (l : List Tt) (o j : Nat) (h : j < l.length), (rootsT l o).getD j 0 = ((o + cntT (l.take j) + l[j].cnt : Nat) : Int) - 1
  | [], _, _, h => by simp at h
  | T :: l, o, 0, _ => by simp [rootsT, cntT]
  | T :: l, o, j + 1, h => by
    have ih := roots_get l (o + T.cnt) j (by simpa using h)
    simp only [rootsT, List.getD_cons_succ, List.take_succ_cons, cntT, List.getElem_cons_succ]
    rw [ih]
    omega
theorem flat_kids (T : Tt) (o : Nat) : T.flat o = flatT T.kids o ++ [T.hd.td (rootsT T.kids o)] := by
  have h := mk_flat T.hd T.kids (kids_le T) o
  rw [mk_kids] at h
  exact h
theorem cnt_kids (T : Tt) : T.cnt = cntT T.kids + 1 := by
  have h := mk_cnt T.hd T.kids (kids_le T)
  rw [mk_kids] at h
  exact h
theorem kv3_take (l : List Int) (h : l.length ≤ 3) : [kv3 (fun i => l.getD i 0) l.length 0, kv3 (fun i => l.getD i 0) l.length 1, kv3 (fun i => l.getD i 0) l.length 2].take l.length = l := by
  match l, h with
  | [], _ => rfl
  | [a], _ => simp [kv3]
  | [a, b], _ => simp [kv3]
  | [a, b, c], _ => simp [kv3]
theorem cnt_take_le : ∀ (l : List Tt) (j : Nat), cntT (l.take j) ≤ cntT l
  | [], j => by simp [cntT]
  | T :: l, 0 => by simp [cntT]
  | T :: l, j + 1 => by have := cnt_take_le l j; simp only [List.take_succ_cons, cntT]; omega
theorem cnt_take_snoc (l : List Tt) (j : Nat) (h : j < l.length) : cntT (l.take (j + 1)) = cntT (l.take j) + l[j].cnt := by
  rw [List.take_succ_eq_append_getElem h, cntT_append]; simp [cntT]
theorem k3_heap' {w : World} {b : Nat} {xs : List Value} (h : K3At w b xs) : ∃ cs, w.heap[b]? = some (.cells cs 133 (0, 0)) := by
  rcases h.2 with ⟨h', _⟩ | ⟨g, cap, cur, h', _, h4, _⟩
  · simp at h'
  · simp only [Value.slice.injEq, Option.some.injEq, Addr.mk.injEq, and_true, true_and] at h'
    obtain ⟨rfl, rfl⟩ := h'
    exact ⟨cur, h4⟩
theorem k3_same' {w w' : World} {b : Nat} {xs : List Value} (h : K3At w b xs) (hh : w'.heap[b]? = w.heap[b]?) : K3At w' b xs := by
  refine ⟨h.1, ?_⟩
  rcases h.2 with h1 | ⟨g, cap, cur, h1, h2, h3, h4⟩
  · exact .inl h1
  · have e : g = b := by simp at h1; omega
    subst e
    exact .inr ⟨g, cap, cur, h1, h2, by rw [hh]; exact h3, h4⟩

end Go.Proofs.YtbgibiongnhjoaaGreat
