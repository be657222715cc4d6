/- What the functions that termOf hands to fold answer: one node more behind a term of the call's own. -/
import Derived.Test.YtjkkojefpecbfaaGreatTeB
namespace Go.Proofs.YtjkkojefpecbfaaGreat
open Go.ChangeShapes Go.WideShapes Go.ChangeAt Go.RowKit

/-- Of what was there only the block nb, and rows of nodes from block lo on, may have changed. -/
structure KeptT (lo nb : Nat) (w w' : World) : Prop where
  os : w'.os = w.os
  tape : w'.tape = w.tape
  output : w'.output = w.output
  size : w.heap.size ≤ w'.heap.size
  block : ∀ k, k < w.heap.size → k ≠ nb → (k < lo ∨ ∀ cs f, w.heap[k]? ≠ some (.cells cs 67 f)) → w'.heap[k]? = w.heap[k]?
theorem KeptT.trans {lo nb : Nat} {a b c : World} (h : KeptT lo nb a b) (k : KeptT lo nb b c) : KeptT lo nb a c :=
  ⟨k.os.trans h.os, k.tape.trans h.tape, k.output.trans h.output, Nat.le_trans h.size k.size, fun i hi hn hc => by
    have e := h.block i hi hn hc
    rw [k.block i (Nat.lt_of_lt_of_le hi h.size) hn (by rw [e]; exact hc), e]⟩
theorem KeptT.of {lo nb : Nat} {w w' : World} (h : Below w.heap.size w w') : KeptT lo nb w w' := ⟨h.os, h.tape, h.output, h.size, fun k hk _ _ => h.block k hk⟩
theorem KeptT.below {lo nb B : Nat} {a w w' : World} (h : KeptT lo nb w w') (hb : Below B a w) (hB : B ≤ w.heap.size) (h1 : B ≤ lo) (h2 : B ≤ nb) : Below B a w' :=
  ⟨h.os.trans hb.os, h.tape.trans hb.tape, h.output.trans hb.output, Nat.le_trans hb.size h.size, fun k hk => (h.block k (by omega) (by omega) (.inl (by omega))).trans (hb.block k hk)⟩
/-- One node more behind a row of nodes. -/
theorem TmV.snoc {lo : Nat} {w W w4 : World} {v lv kv : Value} {g4 cap4 : Nat} {ts : List Td} {td : Td} {xs : List Value} {s t : Nat → Nat} (hlo : lo ≤ w.heap.size) (hbw : Below w.heap.size w W) (h1 : w.ownsRow lo 67 6 v ts.length xs) (h2 : Rg ts.length lo w.heap.size s t) (h3 : ∀ b, v.ownBlock = some b → b < w.heap.size ∧ ∀ i, i < ts.length → b < s i ∨ t i ≤ b) (h4 : ∀ i (h : i < ts.length), TdK (s i) (t i) w xs i ts[i])
    (hu : TdV w.heap.size W.heap.size W lv kv td) (hg : W.grownBy w4 v.ownBlock) (hat : v.ownBlock = some g4 ∨ W.heap.size ≤ g4) (hlt : g4 < w4.heap.size) (h5 : w4.ownsRow lo 67 6 (.slice (some ⟨g4, 0, none⟩) (ts.length + 1) cap4) (ts.length + 1) (xs ++ [.int .i64 td.k, .int .i64 td.n, .int .i64 td.m, .string td.s, lv, kv])) : TmV lo w4.heap.size w4 (.slice (some ⟨g4, 0, none⟩) (ts.length + 1) cap4) (ts ++ [td]) := by
  have hl := h1.1
  have hsz := hbw.size
  have hsz4 := hg.size
  have hvb : ∀ b, v.ownBlock = some b → b < w.heap.size := fun b hb => (h3 b hb).1
  refine ⟨_, rput s ts.length w.heap.size, rput t ts.length W.heap.size, by simpa using h5, by simpa using h2.snoc hlo (Nat.le_refl _) hsz hsz4, fun b hb => ?_, fun i hi => ?_⟩
  · have e : b = g4 := by simp [Value.ownBlock] at hb; omega
    subst e
    refine ⟨hlt, fun i hi => ?_⟩
    by_cases e : i = ts.length
    · subst e
      rw [rput_at, rput_at]
      rcases hat with h | h
      · have := hvb b h; omega
      · omega
    · have hi' : i < ts.length := by simp at hi; omega
      rw [rput_ne s _ e, rput_ne t _ e]
      rcases hat with h | h
      · exact (h3 b h).2 i hi'
      · have := h2.1 i hi'; omega
  · by_cases e : i < ts.length
    · have hr := h2.1 i e
      rw [List.getElem_append_left e, rput_ne s _ (by omega), rput_ne t _ (by omega)]
      have h6 := (h4 i e).same (w' := w4) (fun q q1 q2 => by
        rw [hg.block q (by omega) (fun e2 => by have := (h3 q e2.symm).2 i e; omega)]
        exact hbw.block q (by omega))
      obtain ⟨a, b, c, d, lv', kv', e', f', g'⟩ := h6
      refine ⟨?_, ?_, ?_, ?_, lv', kv', ?_, ?_, g'⟩ <;> rw [List.getElem?_append_left (by omega)] <;> assumption
    · have e2 : i = ts.length := by simp at hi; omega
      subst e2
      rw [List.getElem_append_right (Nat.le_refl _), rput_at, rput_at]
      simp only [Nat.sub_self, List.getElem_cons_zero]
      have ha : ∀ o, (xs ++ [.int .i64 td.k, .int .i64 td.n, .int .i64 td.m, .string td.s, lv, kv])[ts.length * 6 + o]? = ([.int .i64 td.k, .int .i64 td.n, .int .i64 td.m, .string td.s, lv, kv] : List Value)[o]? := fun o => by
        rw [List.getElem?_append_right (by omega), hl, show ts.length * 6 + o - ts.length * 6 = o by omega]
      exact ⟨ha 0, ha 1, ha 2, ha 3, lv, kv, ha 4, ha 5, hu.same (fun q q1 q2 => hg.block q q2 (fun e2 => by have := hvb q e2.symm; omega))⟩
theorem run_small (ns : List Nd) : ∀ k st, runTo ns k = some st → ∀ i (h : i < ns.length), i < k → ns[i].kids.length ≤ 2
  | 0, _, _ => fun i _ h => by omega
  | k + 1, st, h => by
    unfold runTo at h
    split at h
    case h_2 => cases h
    rename_i st' nd h1 h2
    unfold stepN at h
    split at h
    · cases h
    rename_i hno
    simp only [not_or, Decidable.not_not] at hno
    obtain ⟨n1, n2, _, n4⟩ := hno
    intro i hi hik
    by_cases e : i = k
    · subst e
      rw [List.getElem?_eq_getElem hi] at h2
      have e2 := Option.some.inj h2
      rw [e2, n4, List.length_drop]
      have := kidsN_cases nd.k
      omega
    · exact run_small ns k st' h1 i hi (by omega)
theorem lvl_small {l : List Nd} (h : lvlB l = true) : l.length ≤ 64 ∧ ∀ nd ∈ l, nd.kids.length ≤ 2 := by
  simp only [lvlB, Bool.and_eq_true, decide_eq_true_eq] at h
  refine ⟨h.1.2, fun nd hnd => ?_⟩
  obtain ⟨i, hi, rfl⟩ := List.getElem_of_mem hnd
  cases hr : runTo l l.length with
  | none => rw [hr] at h; simp at h
  | some st => exact run_small l l.length st hr i hi hi
theorem set_one {w : World} {b : Nat} {v : Value} {e : TypeId} (h : w.heap[b]? = some (.cells #[v] e (0, 0))) (u : Value) : (w.setCell ⟨b, 0, none⟩ u).heap[b]? = some (.cells #[u] e (0, 0)) := by
  unfold World.setCell
  simp [Array.getElem?_modify, h]
/-- A term stays where a block of another kind changes. -/
theorem tmV_off {lo hi : Nat} {w w' : World} {v : Value} {ts : List Td} {nb : Nat} {cs : Array Value} (h : TmV lo hi w v ts) (hn : w.heap[nb]? = some (.cells cs 26 (0, 0))) (hh : ∀ k : Nat, k ≠ nb → w'.heap[k]? = w.heap[k]?) : TmV lo hi w' v ts := by
  have row : ∀ {base : Nat} {e : TypeId} {s n : Nat} {u : Value} {xs : List Value}, e ≠ 26 → w.ownsRow base e s u n xs → w'.ownsRow base e s u n xs := fun {base e s n u xs} he hr => row_same hr (fun g hg => hh g (fun eg => by
    rcases hr.2 with ⟨h1, _⟩ | ⟨g', cap, cur, h1, _, h4, _⟩
    · rw [h1] at hg; simp [Value.ownBlock] at hg
    · rw [h1] at hg
      have e1 : g' = g := by simpa [Value.ownBlock] using hg
      rw [e1, eg, hn] at h4
      have h5 := Option.some.inj h4
      injection h5 with _ h6 _
      exact he h6.symm))
  obtain ⟨xs, s, t, h1, h2, h3, h4⟩ := h
  refine ⟨xs, s, t, row (by decide) h1, h2, h3, fun i hi => ?_⟩
  obtain ⟨a, b, c, d, lv, kv, e, f, a', c', q1, q2, q3, ⟨ys, s', t', r1, r2, r3, r4⟩, q5, q6⟩ := h4 i hi
  refine ⟨a, b, c, d, lv, kv, e, f, a', c', q1, q2, q3, ⟨ys, s', t', row (by decide) r1, r2, r3, fun j hj => ?_⟩, row (by decide) q5, q6⟩
  obtain ⟨u, p1, zs, p2, p3, p4, p5⟩ := r4 j hj
  refine ⟨u, p1, zs, row (by decide) p2, p3, fun k hk => ?_, p5⟩
  obtain ⟨z1, z2, kv', z3, z4, z5⟩ := p4 k hk
  exact ⟨z1, z2, kv', z3, row (by decide) z4, z5⟩
set_option maxHeartbeats 1000000 in
theorem termOf1_any (b : Nat) (u : Int) (w : World) : Calls Tryz.prog 100 #[.pointer (some ⟨b, 0, none⟩), .int .i64 u] w fun e w' => e = .returned (.tuple #[.int .i64 0, .bool false]) ∧ w' = w := by
  go_enter Tryz.func100, Tryz.ntmps100
  go_wp2_with fail
  exact bodyPost_ret (v := .tuple #[.int .i64 0, .bool false]) (by simp [results, Tryz.results100, go_sem]) rfl ⟨rfl, rfl⟩
theorem run_slice_int (W : World) (b kn : Nat) (hk : kn ≤ 3) : (Instr.sliceAt 133 (.pointer (some ⟨b, 0, none⟩)) none (some (.int .i64 (kn : Int))) none).run Tryz.prog W = .ok (.slice (some ⟨b, 0, none⟩) kn 3) W := by
  rw [run_sliceAt_array_h W 133 ⟨b, 0, none⟩ (by kernel_rfl) .i64 _ (by omega) (by rw [show Tryz.prog.arrayLen 133 = 3 from by kernel_rfl]; omega)]
  simp [slicedAt, go_sem, Addr.add]
/-- The first of three numbers lie in a block. -/
theorem ints3 {w : World} {b : Nat} {x0 x1 x2 : Int} {ks : List Int} {n : Nat} (h0 : w.cell? ⟨b, 0, none⟩ = some (.int .i64 x0)) (h1 : w.cell? ⟨b, 1, none⟩ = some (.int .i64 x1)) (h2 : w.cell? ⟨b, 2, none⟩ = some (.int .i64 x2)) (hk : ks = [x0, x1, x2].take n) (hn : n ≤ 3) : IntsAt w (.slice (some ⟨b, 0, none⟩) ks.length 3) ks := by
  have hl : ks.length ≤ 3 := by rw [hk, List.length_take]; simp; omega
  refine ⟨_, 3, rfl, hl, by unfold maxLen; omega, fun _ => ⟨b, 0, rfl, fun j hj => ?_⟩⟩
  subst hk
  rw [List.getElem_take, Nat.zero_add]
  rcases (show j = 0 ∨ j = 1 ∨ j = 2 by omega) with rfl | rfl | rfl
  · exact h0
  · exact h1
  · exact h2

set_option maxRecDepth 20000 in
set_option maxHeartbeats 16000000 in
theorem termOf2_any (base Sb mb gb clock : Nat) (L : List (Nk × Nat × Nat)) (Z : Nat → Zs) (H : Nat → Bool) (w0 : World) (hs : St base w0 Sb mb gb clock L Z H) (hbase : base ≤ w0.heap.size) (T : Tt) (b : Nat) (hT : IsT L T b) (hlv : ∀ l ∈ T.hd.lv, lvlB l = true) (hl6 : T.hd.lv.length ≤ 1048576) (w : World) (hb0 : Below w0.heap.size w0 w) (nb R cap lo : Nat) (ts : List Td) (ks : List Int) (x0 x1 x2 : Int) (hn : w.heap[nb]? = some (.cells #[.slice (some ⟨R, 0, none⟩) ts.length cap] 26 (0, 0))) (hlo : lo ≤ w.heap.size) (hts : TmV lo w.heap.size w (.slice (some ⟨R, 0, none⟩) ts.length cap) ts) (hk : ks = [x0, x1, x2].take T.kids.length) (hlen : ts.length ≤ 1048576) :
    Calls Tryz.prog 101 #[.pointer (some ⟨b, 0, none⟩), .agg #[.int .i64 x0, .int .i64 x1, .int .i64 x2], .pointer (some ⟨nb, 0, none⟩)] w fun e w' => e = .returned (.int .i64 ts.length) ∧ (∃ R' cap', w'.heap[nb]? = some (.cells #[.slice (some ⟨R', 0, none⟩) (ts.length + 1) cap'] 26 (0, 0)) ∧ TmV lo w'.heap.size w' (.slice (some ⟨R', 0, none⟩) (ts.length + 1) cap') (ts ++ [T.hd.td ks])) ∧ KeptT lo nb w w' := by
  obtain ⟨i67, hi67, hz67, hs67, hb67⟩ := info_parts Tryz.info67
  obtain ⟨ps, c, hpl, hm, _⟩ := ist_open hT
  have h3 := kids_le T
  have har := ent_arity (hs.ents _ hm) (by omega)
  have hkn : (tkidsN T.hd.k).toNat = ks.length := by rw [hk, List.length_take]; simp; omega
  have hkl : ks.length = T.kids.length := by omega
  obtain ⟨lv, nbt, hlvs, _⟩ := ent_levs (hs.ents _ hm) hlv
  have nbt : NbAt w0 b (tmL (keyP T.hd ps) lv (Z b) (H b)) := nbt
  obtain ⟨la, lc, rfl, _, _, _⟩ := hlvs w0 (Below.refl _ _)
  have hbl0 := nbt.lt
  obtain ⟨W1, hW1⟩ : ∃ W1, W1 = w.alloc (.cells #[.int .i64 x0, .int .i64 x1, .int .i64 x2] 133) := ⟨_, rfl⟩
  have hbW : Below w.heap.size w W1 := by rw [hW1]; exact bel_alloc (Below.refl _ _) _
  have hB1 : Below w0.heap.size w0 W1 := bel_trans hb0 hbW
  have a0 : W1.cell? ⟨b, 0, none⟩ = some (.int .i64 T.hd.k) := keep_cell hB1 (by rw [nbt.cell 0 (by omega)]; rfl)
  have a1 : W1.cell? ⟨b, 1, none⟩ = some (.int .i64 T.hd.n) := keep_cell hB1 (by rw [nbt.cell 1 (by omega)]; rfl)
  have a2 : W1.cell? ⟨b, 2, none⟩ = some (.int .i64 T.hd.m) := keep_cell hB1 (by rw [nbt.cell 2 (by omega)]; rfl)
  have a3 : W1.cell? ⟨b, 3, none⟩ = some (.string T.hd.s) := keep_cell hB1 (by rw [nbt.cell 3 (by omega)]; rfl)
  have a8 : W1.cell? ⟨b, 8, none⟩ = some (.slice la T.hd.lv.length lc) := keep_cell hB1 (by rw [nbt.cell 8 (by omega)]; rfl)
  have hnl : nb < w.heap.size := (Array.getElem?_eq_some_iff.1 hn).1
  have hn1 : W1.heap[nb]? = some (.cells #[.slice (some ⟨R, 0, none⟩) ts.length cap] 26 (0, 0)) := by rw [hbW.block _ hnl]; exact hn
  have c0 : W1.cell? ⟨nb, 0, none⟩ = some (.slice (some ⟨R, 0, none⟩) ts.length cap) := by rw [Lib.cell_of_heap hn1]; rfl
  have y0 : W1.cell? ⟨w.heap.size, 0, none⟩ = some (.int .i64 x0) := by rw [hW1]; simp [go_sem]
  have y1 : W1.cell? ⟨w.heap.size, 1, none⟩ = some (.int .i64 x1) := by rw [hW1]; simp [go_sem]
  have y2 : W1.cell? ⟨w.heap.size, 2, none⟩ = some (.int .i64 x2) := by rw [hW1]; simp [go_sem]
  have lb := lt_cell a0
  have lx := lt_cell y0
  have ln := lt_cell c0
  have HG := hide (fun (wx : World) (h : wx.heap[b]? = W1.heap[b]?) => And.intro (heap_cell h a0) (And.intro (heap_cell h a1) (And.intro (heap_cell h a2) (And.intro (heap_cell h a3) (heap_cell h a8)))))
  have HGN := hide (fun (wx : World) (h : wx.heap[nb]? = W1.heap[nb]?) => heap_cell h c0)
  have HFN := hide (fun (wx : World) (h : wx.heap[nb]? = W1.heap[nb]?) => show wx.frozen? ⟨nb, 0, none⟩ = false from Lib.frozen_of_heap (by rw [h]; exact hn1) 0)
  have HGY := hide (fun (wx : World) (h : wx.heap[w.heap.size]? = W1.heap[w.heap.size]?) => ints3 (heap_cell h y0) (heap_cell h y1) (heap_cell h y2) hk h3)
  have HCL := hide (fun (X : World) (hX : Below w0.heap.size w0 X) => copyLevels_any (.slice la T.hd.lv.length lc) T.hd.lv X (hlvs X (hX.mono hbase)) hl6 (fun l hl => ⟨by have := (lvl_small (hlv l hl)).1; omega, fun nd hnd => by have := (lvl_small (hlv l hl)).2 nd hnd; omega⟩))
  have HPT := hide (fun (X : World) (h : X.cell? ⟨b, 0, none⟩ = some (.int .i64 T.hd.k)) => parts_any b T.hd.k X h (by omega) (by omega))
  rw [hkn] at HPT
  have hrs := fun X => run_slice_int X w.heap.size ks.length (by omega)
  obtain ⟨xs, s, t, ho, hrg, hown, hnd⟩ := hts
  have HHO := hide ho
  have HRG := hide hrg
  have HHN := hide hown
  have HND := hide hnd
  have hRn : R ≠ nb := fun e => by
    obtain ⟨cs, hcs⟩ := row_tag ho
    rw [e, hn] at hcs
    have h2 := Option.some.inj hcs
    injection h2 with _ h3 _
    cases h3
  have hRl := (World.ownsRow.lt ho R rfl).2
  have hRx : w.heap.size ≠ R := by omega
  have hRb : b ≠ R := fun e => by
    obtain ⟨cs, hcs⟩ := row_tag ho
    obtain ⟨cs2, hcs2⟩ := nb_heap nbt
    rw [← e, hb0.block b hbl0, hcs2] at hcs
    have h2 := Option.some.inj hcs
    injection h2 with _ h3 _
    cases h3
  have hRlo := (World.ownsRow.lt ho R rfl).1
  have HB1 := hide hB1
  have HBW := hide hbW
  have HN1 := hide hn1
  have hks3 : ks.length ≤ 3 := by omega
  have hlen1 : IntKind.i64.wrap ((ts.length : Int) + 1 - 1) = (ts.length : Int) := by rw [IntKind.wrap_i64]; omega
  have hS0 : (fun w' : World => w'.heap[b]? = W1.heap[b]? ∧ w'.heap[nb]? = W1.heap[nb]? ∧ w'.heap[w.heap.size]? = W1.heap[w.heap.size]?) W1.drew := ⟨rfl, rfl, rfl⟩
  clear hs hbase hT hlv hb0 hn hk hm hpl har hkn hkl nbt hlvs hbl0 hbW hB1 a0 a1 a2 a3 a8 c0 y0 y1 y2 ho hrg hown hnd hn1
  go_enter Tryz.func101, Tryz.ntmps101
  go_wp2_with fail
  rw [← hW1]
  clear hW1
  refine anyE_region (L := 34) (S := fun w' : World => w'.heap[b]? = W1.heap[b]? ∧ w'.heap[nb]? = W1.heap[nb]? ∧ w'.heap[w.heap.size]? = W1.heap[w.heap.size]?) (by kernel_rfl) ?_
  refine anyE_take 0 (v := ?v1) rfl (by kernel_rfl) (by kernel_rfl) (by kernel_rfl) (by kernel_rfl) (fun _ _ _ h => h) (by rfl) ?hy1 hS0 ?rest1
  case hy1 =>
    intro wx hx
    obtain ⟨m0, m1, m2, m3, m8⟩ := HG.out wx hx.1
    have mn := HGN.out wx hx.2.1
    go_simp
    try rfl
  case rest1 =>
  intro K hK
  go_simp
  refine hK.out _ ?_
  clear hK K
  refine anyE_take 1 (v := ?v2) rfl (by kernel_rfl) (by kernel_rfl) (by kernel_rfl) (by kernel_rfl) (fun _ _ _ h => h) (by rfl) ?hy2 hS0 ?rest2
  case hy2 =>
    intro wx hx
    obtain ⟨m0, m1, m2, m3, m8⟩ := HG.out wx hx.1
    have mn := HGN.out wx hx.2.1
    go_simp
    try rfl
  case rest2 =>
  intro K hK
  go_simp
  refine hK.out _ ?_
  clear hK K
  refine anyE_take 2 (v := ?v3) rfl (by kernel_rfl) (by kernel_rfl) (by kernel_rfl) (by kernel_rfl) (fun _ _ _ h => h) (by rfl) ?hy3 hS0 ?rest3
  case hy3 =>
    intro wx hx
    obtain ⟨m0, m1, m2, m3, m8⟩ := HG.out wx hx.1
    have mn := HGN.out wx hx.2.1
    go_simp
    try rfl
  case rest3 =>
  intro K hK
  go_simp
  refine hK.out _ ?_
  clear hK K
  refine anyE_take 3 (v := ?v4) rfl (by kernel_rfl) (by kernel_rfl) (by kernel_rfl) (by kernel_rfl) (fun _ _ _ h => h) (by rfl) ?hy4 hS0 ?rest4
  case hy4 =>
    intro wx hx
    obtain ⟨m0, m1, m2, m3, m8⟩ := HG.out wx hx.1
    have mn := HGN.out wx hx.2.1
    go_simp
    try rfl
  case rest4 =>
  intro K hK
  go_simp
  refine hK.out _ ?_
  clear hK K
  refine anyE_take 4 (v := ?v5) rfl (by kernel_rfl) (by kernel_rfl) (by kernel_rfl) (by kernel_rfl) (fun _ _ _ h => h) (by rfl) ?hy5 hS0 ?rest5
  case hy5 =>
    intro wx hx
    obtain ⟨m0, m1, m2, m3, m8⟩ := HG.out wx hx.1
    have mn := HGN.out wx hx.2.1
    go_simp
    try rfl
  case rest5 =>
  intro K hK
  go_simp
  refine hK.out _ ?_
  clear hK K
  refine anyE_take 5 (v := ?v6) rfl (by kernel_rfl) (by kernel_rfl) (by kernel_rfl) (by kernel_rfl) (fun _ _ _ h => h) (by rfl) ?hy6 hS0 ?rest6
  case hy6 =>
    intro wx hx
    obtain ⟨m0, m1, m2, m3, m8⟩ := HG.out wx hx.1
    have mn := HGN.out wx hx.2.1
    go_simp
    try rfl
  case rest6 =>
  intro K hK
  go_simp
  refine hK.out _ ?_
  clear hK K
  refine anyE_take 6 (v := ?v7) rfl (by kernel_rfl) (by kernel_rfl) (by kernel_rfl) (by kernel_rfl) (fun _ _ _ h => h) (by rfl) ?hy7 hS0 ?rest7
  case hy7 =>
    intro wx hx
    obtain ⟨m0, m1, m2, m3, m8⟩ := HG.out wx hx.1
    have mn := HGN.out wx hx.2.1
    go_simp
    try rfl
  case rest7 =>
  intro K hK
  go_simp
  refine hK.out _ ?_
  clear hK K
  refine anyE_take 7 (v := ?v8) rfl (by kernel_rfl) (by kernel_rfl) (by kernel_rfl) (by kernel_rfl) (fun _ _ _ h => h) (by rfl) ?hy8 hS0 ?rest8
  case hy8 =>
    intro wx hx
    obtain ⟨m0, m1, m2, m3, m8⟩ := HG.out wx hx.1
    have mn := HGN.out wx hx.2.1
    go_simp
    try rfl
  case rest8 =>
  intro K hK
  go_simp
  refine hK.out _ ?_
  clear hK K
  refine anyE_take 8 (v := ?v9) rfl (by kernel_rfl) (by kernel_rfl) (by kernel_rfl) (by kernel_rfl) (fun _ _ _ h => h) (by rfl) ?hy9 hS0 ?rest9
  case hy9 =>
    intro wx hx
    obtain ⟨m0, m1, m2, m3, m8⟩ := HG.out wx hx.1
    have mn := HGN.out wx hx.2.1
    go_simp
    try rfl
  case rest9 =>
  intro K hK
  go_simp
  refine hK.out _ ?_
  clear hK K
  refine anyE_take 9 (v := ?v10) rfl (by kernel_rfl) (by kernel_rfl) (by kernel_rfl) (by kernel_rfl) (fun _ _ _ h => h) (by rfl) ?hy10 hS0 ?rest10
  case hy10 =>
    intro wx hx
    obtain ⟨m0, m1, m2, m3, m8⟩ := HG.out wx hx.1
    have mn := HGN.out wx hx.2.1
    go_simp
    try rfl
  case rest10 =>
  intro K hK
  go_simp
  refine hK.out _ ?_
  clear hK K
  refine anyE_take 10 (v := ?v11) rfl (by kernel_rfl) (by kernel_rfl) (by kernel_rfl) (by kernel_rfl) (fun _ _ _ h => h) (by rfl) ?hy11 hS0 ?rest11
  case hy11 =>
    intro wx hx
    obtain ⟨m0, m1, m2, m3, m8⟩ := HG.out wx hx.1
    have mn := HGN.out wx hx.2.1
    go_simp
    try rfl
  case rest11 =>
  intro K hK
  go_simp
  refine hK.out _ ?_
  clear hK K
  refine anyE_take 11 (v := ?v12) rfl (by kernel_rfl) (by kernel_rfl) (by kernel_rfl) (by kernel_rfl) (fun _ _ _ h => h) (by rfl) ?hy12 hS0 ?rest12
  case hy12 =>
    intro wx hx
    obtain ⟨m0, m1, m2, m3, m8⟩ := HG.out wx hx.1
    have mn := HGN.out wx hx.2.1
    go_simp
    try rfl
  case rest12 =>
  intro K hK
  go_simp
  refine hK.out _ ?_
  clear hK K
  refine anyE_take 12 (v := ?v13) rfl (by kernel_rfl) (by kernel_rfl) (by kernel_rfl) (by kernel_rfl) (fun _ _ _ h => h) (by rfl) ?hy13 hS0 ?rest13
  case hy13 =>
    intro wx hx
    obtain ⟨m0, m1, m2, m3, m8⟩ := HG.out wx hx.1
    have mn := HGN.out wx hx.2.1
    go_simp
    try rfl
  case rest13 =>
  intro K hK
  go_simp
  refine hK.out _ ?_
  clear hK K
  refine anyE_take 13 (v := ?v14) rfl (by kernel_rfl) (by kernel_rfl) (by kernel_rfl) (by kernel_rfl) (fun _ _ _ h => h) (by rfl) ?hy14 hS0 ?rest14
  case hy14 =>
    intro wx hx
    obtain ⟨m0, m1, m2, m3, m8⟩ := HG.out wx hx.1
    have mn := HGN.out wx hx.2.1
    go_simp
    try rfl
  case rest14 =>
  intro K hK
  go_simp
  refine hK.out _ ?_
  clear hK K
  refine anyE_take 14 (v := ?v15) rfl (by kernel_rfl) (by kernel_rfl) (by kernel_rfl) (by kernel_rfl) (fun _ _ _ h => h) (by rfl) ?hy15 hS0 ?rest15
  case hy15 =>
    intro wx hx
    obtain ⟨m0, m1, m2, m3, m8⟩ := HG.out wx hx.1
    have mn := HGN.out wx hx.2.1
    go_simp
    try rfl
  case rest15 =>
  intro K hK
  go_simp
  refine hK.out _ ?_
  clear hK K
  refine anyE_take 15 (v := ?v16) rfl (by kernel_rfl) (by kernel_rfl) (by kernel_rfl) (by kernel_rfl) (fun _ _ _ h => h) (by rfl) ?hy16 hS0 ?rest16
  case hy16 =>
    intro wx hx
    obtain ⟨m0, m1, m2, m3, m8⟩ := HG.out wx hx.1
    have mn := HGN.out wx hx.2.1
    go_simp
    try rfl
  case rest16 =>
  intro K hK
  go_simp
  refine hK.out _ ?_
  clear hK K
  refine anyE_take 16 (v := ?v17) rfl (by kernel_rfl) (by kernel_rfl) (by kernel_rfl) (by kernel_rfl) (fun _ _ _ h => h) (by rfl) ?hy17 hS0 ?rest17
  case hy17 =>
    intro wx hx
    obtain ⟨m0, m1, m2, m3, m8⟩ := HG.out wx hx.1
    have mn := HGN.out wx hx.2.1
    go_simp
    try rfl
  case rest17 =>
  intro K hK
  go_simp
  refine hK.out _ ?_
  clear hK K
  refine anyE_take 17 (v := ?v18) rfl (by kernel_rfl) (by kernel_rfl) (by kernel_rfl) (by kernel_rfl) (fun _ _ _ h => h) (by rfl) ?hy18 hS0 ?rest18
  case hy18 =>
    intro wx hx
    obtain ⟨m0, m1, m2, m3, m8⟩ := HG.out wx hx.1
    have mn := HGN.out wx hx.2.1
    go_simp
    try rfl
  case rest18 =>
  intro K hK
  go_simp
  refine hK.out _ ?_
  clear hK K
  refine anyE_take 18 (v := ?v19) rfl (by kernel_rfl) (by kernel_rfl) (by kernel_rfl) (by kernel_rfl) (fun _ _ _ h => h) (by rfl) ?hy19 hS0 ?rest19
  case hy19 =>
    intro wx hx
    obtain ⟨m0, m1, m2, m3, m8⟩ := HG.out wx hx.1
    have mn := HGN.out wx hx.2.1
    go_simp
    try rfl
  case rest19 =>
  intro K hK
  go_simp
  refine hK.out _ ?_
  clear hK K
  refine anyE_take 19 (v := ?v20) rfl (by kernel_rfl) (by kernel_rfl) (by kernel_rfl) (by kernel_rfl) (fun _ _ _ h => h) (by rfl) ?hy20 hS0 ?rest20
  case hy20 =>
    intro wx hx
    obtain ⟨m0, m1, m2, m3, m8⟩ := HG.out wx hx.1
    have mn := HGN.out wx hx.2.1
    go_simp
    try rfl
  case rest20 =>
  intro K hK
  go_simp
  refine hK.out _ ?_
  clear hK K
  refine anyE_take 20 (v := ?v21) rfl (by kernel_rfl) (by kernel_rfl) (by kernel_rfl) (by kernel_rfl) (fun _ _ _ h => h) (by rfl) ?hy21 hS0 ?rest21
  case hy21 =>
    intro wx hx
    obtain ⟨m0, m1, m2, m3, m8⟩ := HG.out wx hx.1
    have mn := HGN.out wx hx.2.1
    go_simp
    try rfl
  case rest21 =>
  intro K hK
  go_simp
  refine hK.out _ ?_
  clear hK K
  refine anyE_take 21 (v := ?v22) rfl (by kernel_rfl) (by kernel_rfl) (by kernel_rfl) (by kernel_rfl) (fun _ _ _ h => h) (by rfl) ?hy22 hS0 ?rest22
  case hy22 =>
    intro wx hx
    obtain ⟨m0, m1, m2, m3, m8⟩ := HG.out wx hx.1
    have mn := HGN.out wx hx.2.1
    go_simp
    try rfl
  case rest22 =>
  intro K hK
  go_simp
  refine hK.out _ ?_
  clear hK K
  refine anyE_take 22 (v := ?v23) rfl (by kernel_rfl) (by kernel_rfl) (by kernel_rfl) (by kernel_rfl) (fun _ _ _ h => h) (by rfl) ?hy23 hS0 ?rest23
  case hy23 =>
    intro wx hx
    obtain ⟨m0, m1, m2, m3, m8⟩ := HG.out wx hx.1
    have mn := HGN.out wx hx.2.1
    go_simp
    try rfl
  case rest23 =>
  intro K hK
  go_simp
  refine hK.out _ ?_
  clear hK K
  refine anyE_take 23 (v := ?v24) rfl (by kernel_rfl) (by kernel_rfl) (by kernel_rfl) (by kernel_rfl) (fun _ _ _ h => h) (by rfl) ?hy24 hS0 ?rest24
  case hy24 =>
    intro wx hx
    obtain ⟨m0, m1, m2, m3, m8⟩ := HG.out wx hx.1
    have mn := HGN.out wx hx.2.1
    go_simp
    try rfl
  case rest24 =>
  intro K hK
  go_simp
  refine hK.out _ ?_
  clear hK K
  refine anyE_take 24 (v := ?v25) rfl (by kernel_rfl) (by kernel_rfl) (by kernel_rfl) (by kernel_rfl) (fun _ _ _ h => h) (by rfl) ?hy25 hS0 ?rest25
  case hy25 =>
    intro wx hx
    obtain ⟨m0, m1, m2, m3, m8⟩ := HG.out wx hx.1
    have mn := HGN.out wx hx.2.1
    go_simp
    try rfl
  case rest25 =>
  intro K hK
  go_simp
  refine hK.out _ ?_
  clear hK K
  refine anyE_take 26 (v := ?v26) rfl (by kernel_rfl) (by kernel_rfl) (by kernel_rfl) (by kernel_rfl) (fun _ _ _ h => h) (by rfl) ?hy26 hS0 ?rest26
  case hy26 =>
    intro wx hx
    obtain ⟨m0, m1, m2, m3, m8⟩ := HG.out wx hx.1
    have mn := HGN.out wx hx.2.1
    go_simp
    try rfl
  case rest26 =>
  intro K hK
  go_simp
  refine hK.out _ ?_
  clear hK K
  have szV : W1.heap.size ≤ W1.drew.heap.size := Nat.le_refl _
  obtain ⟨V, hV⟩ : ∃ V, V = W1.drew := ⟨_, rfl⟩
  rw [← hV] at hS0 szV ⊢
  have sV : V.heap[b]? = W1.heap[b]? ∧ V.heap[nb]? = W1.heap[nb]? ∧ V.heap[w.heap.size]? = W1.heap[w.heap.size]? := hS0
  have BV : Below w0.heap.size w0 V := by rw [hV]; exact HB1.out.drew
  have DV : Below w.heap.size w V := by rw [hV]; exact HBW.out.drew
  clear hV hS0
  refine anyE_one 25 (by kernel_rfl) rfl (fun K hK => ?_)
  go_simp
  refine (HCL.out V BV).mono ?_
  rintro e Y1 ⟨adl, cpl, rfl, hls, hbY1⟩
  have sY1 : Y1.heap[b]? = W1.heap[b]? ∧ Y1.heap[nb]? = W1.heap[nb]? ∧ Y1.heap[w.heap.size]? = W1.heap[w.heap.size]? := ⟨(hbY1.block _ (Nat.lt_of_lt_of_le lb szV)).trans sV.1, (hbY1.block _ (Nat.lt_of_lt_of_le ln szV)).trans sV.2.1, (hbY1.block _ (Nat.lt_of_lt_of_le lx szV)).trans sV.2.2⟩
  have szY1 : W1.heap.size ≤ Y1.heap.size := Nat.le_trans szV hbY1.size
  have BY1 := bel_trans BV hbY1
  have DY1 := bel_trans DV hbY1
  refine hK.out _ _ (fun _ => sY1) ?_
  clear hK K
  refine anyE_one 27 (by kernel_rfl) rfl (fun K hK => ?_)
  go_simp
  refine (HPT.out Y1 (HG.out Y1 sY1.1).1).mono ?_
  rintro e Y2 ⟨rfl, hbY2⟩
  have sY2 : Y2.heap[b]? = W1.heap[b]? ∧ Y2.heap[nb]? = W1.heap[nb]? ∧ Y2.heap[w.heap.size]? = W1.heap[w.heap.size]? := ⟨(hbY2.block _ (Nat.lt_of_lt_of_le lb szY1)).trans sY1.1, (hbY2.block _ (Nat.lt_of_lt_of_le ln szY1)).trans sY1.2.1, (hbY2.block _ (Nat.lt_of_lt_of_le lx szY1)).trans sY1.2.2⟩
  have szY2 : W1.heap.size ≤ Y2.heap.size := Nat.le_trans szY1 hbY2.size
  have BY2 := bel_trans BY1 hbY2
  have DY2 := bel_trans DY1 hbY2
  refine hK.out _ _ (fun _ => sY2) ?_
  clear hK K
  refine anyE_take 28 (v := ?v27) rfl (by kernel_rfl) (by kernel_rfl) (by kernel_rfl) (by kernel_rfl) (fun _ _ _ h => h) (by rfl) ?hy27 sY2 ?rest27
  case hy27 =>
    intro wx hx
    obtain ⟨m0, m1, m2, m3, m8⟩ := HG.out wx hx.1
    have mn := HGN.out wx hx.2.1
    go_simp
    try rfl
  case rest27 =>
  intro K hK
  go_simp
  refine hK.out _ ?_
  clear hK K
  refine anyE_take 29 (v := ?v28) rfl (by kernel_rfl) (by kernel_rfl) (by kernel_rfl) (by kernel_rfl) (fun _ _ _ h => h) (by rfl) ?hy28 sY2 ?rest28
  case hy28 =>
    intro wx hx
    obtain ⟨m0, m1, m2, m3, m8⟩ := HG.out wx hx.1
    have mn := HGN.out wx hx.2.1
    go_simp
    try rfl
  case rest28 =>
  intro K hK
  go_simp
  refine hK.out _ ?_
  clear hK K
  refine anyE_one 30 (by kernel_rfl) rfl (fun K hK => ?_)
  refine step_copy_kids rfl _ _ rfl w.heap.size (.slice (some ⟨w.heap.size, 0, none⟩) ks.length 3) ks rfl rfl (HGY.out Y2 sY2.2.2) (by omega) (by have := DY2.size; omega) ?_
  intro adk cpk Y3 hkr hbY3 hknew
  have sY3 : Y3.heap[b]? = W1.heap[b]? ∧ Y3.heap[nb]? = W1.heap[nb]? ∧ Y3.heap[w.heap.size]? = W1.heap[w.heap.size]? := ⟨(hbY3.block _ (Nat.lt_of_lt_of_le lb szY2)).trans sY2.1, (hbY3.block _ (Nat.lt_of_lt_of_le ln szY2)).trans sY2.2.1, (hbY3.block _ (Nat.lt_of_lt_of_le lx szY2)).trans sY2.2.2⟩
  have szY3 : W1.heap.size ≤ Y3.heap.size := Nat.le_trans szY2 hbY3.size
  have BY3 := bel_trans BY2 hbY3
  have DY3 := bel_trans DY2 hbY3
  refine hK.out _ _ (fun _ => sY3) ?_
  clear hK K
  have HTV : Hid (TdV w.heap.size Y3.heap.size Y3 (.slice adl T.hd.lv.length cpl) (.slice adk ks.length cpk) (T.hd.td ks)) := ⟨V.heap.size, Y1.heap.size, DV.size, hbY1.size, by have := hbY2.size; have := hbY3.size; omega, (hls.keep hbY2 (Nat.le_refl _)).keep hbY3 (by have := hbY2.size; omega), hkr, fun q hq => ⟨(World.ownsRow.lt hkr q hq).2, .inr (by have := hknew q hq; have := hbY2.size; omega)⟩⟩
  have HD := hide DY3
  have hsx := sY3
  obtain ⟨X, hXX⟩ : ∃ X, X = Y3 := ⟨_, rfl⟩
  rw [← hXX] at HTV HD hsx ⊢
  have hXs : W1.heap.size ≤ X.heap.size := by rw [hXX]; exact szY3
  clear hXX hls hkr hknew HCL HPT HG HGY hrs
  refine anyE_one 31 (by kernel_rfl) rfl (fun K hK => ?_)
  go_simp
  refine hK.out _ _ (fun _ => hsx) ?_
  clear hK K
  refine anyE_one 32 (by kernel_rfl) rfl (fun K hK => ?_)
  go_simp
  obtain ⟨W3, hW3⟩ : ∃ W3, W3 = X.alloc (.cells #[.int .i64 T.hd.k, .int .i64 T.hd.n, .int .i64 T.hd.m, .string T.hd.s, .slice adl T.hd.lv.length cpl, .slice adk ks.length cpk] 67) := ⟨_, rfl⟩
  rw [← hW3]
  have hb3 : Below X.heap.size X W3 := by rw [hW3]; exact bel_alloc (Below.refl _ _) _
  have hh3 : W3.heap[X.heap.size]? = some (.cells #[.int .i64 T.hd.k, .int .i64 T.hd.n, .int .i64 T.hd.m, .string T.hd.s, .slice adl T.hd.lv.length cpl, .slice adk ks.length cpk] 67 (0, 0)) := by rw [hW3]; exact heap_alloc_new X _
  have hs3 : W3.heap[b]? = W1.heap[b]? ∧ W3.heap[nb]? = W1.heap[nb]? ∧ W3.heap[w.heap.size]? = W1.heap[w.heap.size]? := ⟨(hb3.block _ (by omega)).trans hsx.1, (hb3.block _ (by omega)).trans hsx.2.1, (hb3.block _ (by omega)).trans hsx.2.2⟩
  refine hK.out _ _ (fun _ => hs3) ?_
  clear hK K
  have hsz3 := hb3.size
  have HTV3 : Hid (TdV w.heap.size W3.heap.size W3 (.slice adl T.hd.lv.length cpl) (.slice adk ks.length cpk) (T.hd.td ks)) := (HTV.out.same (fun q _ q2 => hb3.block q q2)).mono (Nat.le_refl _) hsz3
  have HD3 := hide (bel_trans HD.out hb3)
  have HOW3 := hide (row_keep HD3.out HHO.out)
  clear hb3 HTV HD hW3 hsx
  refine anyE_one 33 (by kernel_rfl) rfl (fun K hK => ?_)
  refine step_append_lies _ rfl _ _ 26 rfl lo 67 i67 (.agg #[.int .i64 0, .int .i64 0, .int .i64 0, .string ⟨#[]⟩, .slice none 0 0, .slice none 0 0]) 6 88 Tryz.underlying26 hi67 hz67 hs67 hb67 rfl (by omega) (.slice (some ⟨R, 0, none⟩) ts.length cap) ts.length xs rfl HOW3.out ⟨X.heap.size, 0, none⟩ 1 1 [.int .i64 T.hd.k, .int .i64 T.hd.n, .int .i64 T.hd.m, .string T.hd.s, .slice adl T.hd.lv.length cpl, .slice adk ks.length cpk] rfl rfl (World.news_of_block (cs := #[.int .i64 T.hd.k, .int .i64 T.hd.n, .int .i64 T.hd.m, .string T.hd.s, .slice adl T.hd.lv.length cpl, .slice adk ks.length cpk]) (t := 67) (fr := (0, 0)) hh3) (by intro u hu; simp at hu; rcases hu with rfl | rfl | rfl | rfl | rfl | rfl <;> rfl) (by omega) (by unfold maxLen; omega) (by omega) (by have := HD3.out.size; omega) W3.heap.size rfl ?_
  intro g4 cap4 w4 hown4 hgrow4 hat4 hlt4
  have hD3s := HD3.out.size
  have hs4 : w4.heap[b]? = W1.heap[b]? ∧ w4.heap[nb]? = W1.heap[nb]? ∧ w4.heap[w.heap.size]? = W1.heap[w.heap.size]? := ⟨(hgrow4.block _ (by omega) (fun e => hRb (Option.some.inj e))).trans hs3.1, (hgrow4.block _ (by omega) (fun e => hRn (Option.some.inj e).symm)).trans hs3.2.1, (hgrow4.block _ (by omega) (fun e => hRx (Option.some.inj e))).trans hs3.2.2⟩
  refine hK.out _ _ (fun _ => hs4) ?_
  clear hK K
  have hend := TmV.snoc (ts := ts) (td := T.hd.td ks) hlo HD3.out HHO.out HRG.out HHN.out HND.out HTV3.out hgrow4 (by rcases hat4 with h | h; exact .inl h; exact .inr (by omega)) hlt4 hown4
  have HE := hide hend
  have mn := HGN.out w4 hs4.2.1
  have fn := HFN.out w4 hs4.2.1
  have HN4 : Hid (w4.heap[nb]? = some (.cells #[.slice (some ⟨R, 0, none⟩) ts.length cap] 26 (0, 0))) := hs4.2.1.trans HN1.out
  have HK4 : Hid (KeptT lo nb w w4) := by
    refine ⟨hgrow4.os.trans HD3.out.os, hgrow4.tape.trans HD3.out.tape, hgrow4.output.trans HD3.out.output, Nat.le_trans hD3s hgrow4.size, fun k hk hkn hkc => ?_⟩
    rw [hgrow4.block k (by omega) (fun e => ?_), HD3.out.block k hk]
    have e : k = R := Option.some.inj e
    subst e
    rcases hkc with h | h
    · omega
    · obtain ⟨cs, hcs⟩ := row_tag HHO.out
      exact h _ _ hcs
  have hg4 : R = g4 ∨ W3.heap.size ≤ g4 := by
    rcases hat4 with h | h
    · exact .inl (Option.some.inj h)
    · exact .inr (by omega)
  have hnl4 : nb < w4.heap.size := lt_cell mn
  have hgn4 : g4 ≠ nb := by rcases hg4 with h | h <;> omega
  clear hend hown4 hgrow4 hat4 HOW3 HTV3 HHO HRG HHN HND HGN HFN hh3 HD3
  refine anyE_one 34 (by kernel_rfl) rfl (fun K hK => ?_)
  go_simp
  refine hK.out _ _ (fun h => absurd rfl h) ?_
  clear hK K
  refine anyE_done (by kernel_rfl) ?_ _
  obtain ⟨W5, hW5⟩ : ∃ W5, W5 = w4.setCell ⟨nb, 0, none⟩ (.slice (some ⟨g4, 0, none⟩) (ts.length + 1) cap4) := ⟨_, rfl⟩
  have c5 : W5.cell? ⟨nb, 0, none⟩ = some (.slice (some ⟨g4, 0, none⟩) (ts.length + 1) cap4) := by rw [hW5]; simp [go_sem, mn]
  have n5 : nb < W5.heap.size := lt_cell c5
  have HN5 : Hid (W5.heap[nb]? = some (.cells #[.slice (some ⟨g4, 0, none⟩) (ts.length + 1) cap4] 26 (0, 0))) := by
    show _ = _
    rw [hW5]
    exact set_one HN4.out _
  have hh5 : ∀ k, k ≠ nb → W5.heap[k]? = w4.heap[k]? := fun k hk => by rw [hW5]; exact Below.heap_setCell w4 _ _ k hk
  have hs5 : W5.heap.size = w4.heap.size := by rw [hW5, size_set]
  have HE5 : Hid (TmV lo W5.heap.size W5 (.slice (some ⟨g4, 0, none⟩) (ts.length + 1) cap4) (ts ++ [T.hd.td ks])) := by
    show TmV _ _ _ _ _
    rw [hs5]
    exact tmV_off HE.out HN4.out hh5
  have HK5 : Hid (KeptT lo nb w W5) := by
    have h := HK4.out
    refine ⟨by rw [hW5]; exact h.os, by rw [hW5]; exact h.tape, by rw [hW5]; exact h.output, by rw [hs5]; exact h.size, fun k hk hkn hkc => ?_⟩
    rw [hh5 k hkn]
    exact h.block k hk hkn hkc
  rw [← hW5]
  clear hW5 HN4 HE HK4 hh5 mn fn
  go_wp2_with fail
  go_ret
  exact ⟨rfl, ⟨g4, cap4, HN5.out, HE5.out⟩, HK5.out⟩
end Go.Proofs.YtjkkojefpecbfaaGreat
