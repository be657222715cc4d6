/- What copyLevel and copyLevels answer: rows of the call's own. -/
import Derived.Test.YtjkkojefpecbfaaGreatTeA
import Derived.Test.YtjkkojefpecbfaaGreatLwH
import Derived.Test.YtjkkojefpecbfaaGreatFoB
import Derived.OwnWalk
import Derived.Deep.AppendLies
namespace Go.Proofs.YtjkkojefpecbfaaGreat
open Go.ChangeShapes Go.WideShapes Go.ChangeAt Go.RowKit

theorem KidRow.grownW {base b2 : Nat} {w w' : World} {kv v : Value} {ks : List Int} {n s : Nat} {e : TypeId} {xs : List Value} (h : KidRow base w kv ks) (hr : w.ownsRow b2 e s v n xs) (he : e ≠ 3) (hg : w.grownBy w' v.ownBlock) : KidRow base w' kv ks := by
  rcases hr.2 with ⟨h1, _⟩ | ⟨g, cap, cur, h1, _⟩
  · subst h1
    refine World.ownsRow.kept h hg ?_
    cases kv.ownBlock with
    | none => exact .inl rfl
    | some b => exact .inr (by simp [Value.ownBlock])
  · subst h1
    exact h.grown hr he hg
theorem NdW.snoc {base : Nat} {w W w4 : World} {v : Value} {g4 cap4 : Nat} {ns : List Nd} {nd : Nd} {kv : Value} {xs : List Value} (hbw : Below w.heap.size w W) (h1 : w.ownsRow base 174 3 v ns.length xs) (h2 : ∀ i (h : i < ns.length), xs[i * 3]? = some (.int .i64 ns[i].k) ∧ xs[i * 3 + 1]? = some (.string ns[i].s) ∧ ∃ kv, xs[i * 3 + 2]? = some kv ∧ KidRow base w kv ns[i].kids) (hap : Apart xs ns.length)
    (hk : KidRow base W kv nd.kids) (hnew : ∀ b, kv.ownBlock = some b → w.heap.size ≤ b) (hg : W.grownBy w4 v.ownBlock) (h4 : w4.ownsRow base 174 3 (.slice (some ⟨g4, 0, none⟩) (ns.length + 1) cap4) (ns.length + 1) (xs ++ [.int .i64 nd.k, .string nd.s, kv])) : NdW base w4 (.slice (some ⟨g4, 0, none⟩) (ns.length + 1) cap4) (ns ++ [nd]) ∧ w.grownBy w4 v.ownBlock := by
  have hl := h1.1
  have h1' := row_keep hbw h1
  refine ⟨⟨xs ++ [.int .i64 nd.k, .string nd.s, kv], by simpa using h4, fun i hi => ?_, ?_⟩, ((grown_of hbw).but _).trans hg⟩
  · by_cases e : i < ns.length
    · obtain ⟨a, b, kv', c, d⟩ := h2 i e
      rw [List.getElem_append_left e]
      exact ⟨by rw [List.getElem?_append_left (by omega)]; exact a, by rw [List.getElem?_append_left (by omega)]; exact b, kv', by rw [List.getElem?_append_left (by omega)]; exact c, (d.keep hbw).grownW h1' (by decide) hg⟩
    · have e2 : i = ns.length := by simp at hi; omega
      subst e2
      rw [List.getElem_append_right (Nat.le_refl _)]
      simp only [Nat.sub_self, List.getElem_cons_zero]
      refine ⟨?_, ?_, kv, ?_, hk.grownW h1' (by decide) hg⟩
      · rw [List.getElem?_append_right (by omega), hl, Nat.sub_self]; rfl
      · rw [List.getElem?_append_right (by omega), hl, show ns.length * 3 + 1 - ns.length * 3 = 1 from by omega]; rfl
      · rw [List.getElem?_append_right (by omega), hl, show ns.length * 3 + 2 - ns.length * 3 = 2 from by omega]; rfl
  · rw [List.length_append]
    refine hap.snoc hl _ _ kv fun i hi kv' b q1 q2 q3 => ?_
    obtain ⟨_, _, kv2, c, d⟩ := h2 i hi
    rw [c] at q1
    obtain rfl := Option.some.inj q1
    have := (World.ownsRow.lt d b q2).2
    have := hnew b q3
    omega
theorem NdW.set {base : Nat} {w : World} {v : Value} {ns : List Nd} (h : NdW base w v ns) {l o : Nat} {cs : Array Value} {e : TypeId} (he : e ≠ 3) (he2 : e ≠ 174) (ht : w.heap[l]? = some (.cells cs e (0, 0))) (u : Value) : NdW base (w.setCell ⟨l, o, none⟩ u) v ns := by
  obtain ⟨xs, h1, h2, h3⟩ := h
  refine ⟨xs, ?_, fun i hi => ?_, h3⟩
  · rcases h1.2 with ⟨hv, _⟩ | ⟨g, cap, cur, hv, _⟩
    · exact World.ownsRow.kept h1 (grown_set w ⟨l, o, none⟩ u) (.inl (by rw [hv]; rfl))
    · subst hv
      refine own_set h1 (p := ⟨l, o, none⟩) ?_ u
      obtain ⟨c2, h4⟩ := row_tag h1
      intro e'
      have e' : g = l := e'
      subst e'
      rw [h4] at ht
      simp at ht
      exact he2 ht.2.symm
  · obtain ⟨a, b, kv, c, d⟩ := h2 i hi
    exact ⟨a, b, kv, c, d.set (p := ⟨l, o, none⟩) ⟨cs, e, he, ht⟩ u⟩
theorem run_append_none {P : Program} {w : World} (t ty e : TypeId) (i : TypeInfo) (ht : P.underlying t = some (.slice e)) (hi : P.info? e = some i) (b : Option Addr) (n c : Nat) (hnc : n ≤ c) (ax : Option Addr) (cx : Nat) :
    (Builtin.append_ #[t, t] ty #[.slice b n c, .slice ax 0 cx]).run P w = .ok (.slice b n c) w := by
  refine run_append_nothing w t t ty e i ht hi b n c hnc (.slice ax 0 cx) ⟨.inl ⟨e, ht⟩, fun w' => ?_, ?_, ?_, by simp, fun u h => by simp at h⟩
  · simp [Builtin.lenOf]
  · cases ax <;> simp [Builtin.firstCells, loadCells, loadCellsFrom]
  · cases ax <;> simp [Builtin.firstCells, loadCells, loadCellsFrom]
theorem step_append_none {P : Program} {w : World} {ops : Array Oper} {o : Oper} {a : Act} {K : Act → World → Prop} {Q : Exit → Act → World → Prop} {E : Prop} (hgd : o.guard = none) (s x : Operand) (t : TypeId)
    (ho : o.op = .call { callee := .builtin .append, args := #[s, x], argTypes := #[t, t] }) (e : TypeId) (i : TypeInfo) (ht : P.underlying t = some (.slice e)) (hi : P.info? e = some i)
    (b : Option Addr) (n c : Nat) (hnc : n ≤ c) (ax : Option Addr) (cx : Nat) (hs : a.eval s = .slice b n c) (hx : a.eval x = .slice ax 0 cx) (h : K (a.put o.dst (.slice b n c)) w) :
    if Region.wanted o (yielded ops a.tmps) = true then Oper.wp P o a w K Q else E := by
  have hw : Region.wanted o (yielded ops a.tmps) = true := by simp [Region.wanted, hgd]
  rw [if_pos hw]
  have hr := run_append_none (P := P) (w := w) t o.type e i ht hi b n c hnc ax cx
  unfold Oper.wp execOp
  simp only [ho, resolve, invoke, builtin, Sem.run_bind, Sem.run_pure, Result.andThen_ok, List.map_toArray, List.map_cons, List.map_nil, hs, hx, hr]
  exact h
/-- A copy of a row of numbers. -/
theorem kid_copy {base : Nat} {w' : World} {g cap : Nat} {ks : List Int} (h : w'.ownsRow base 3 1 (.slice (some ⟨g, 0, none⟩) (0 + ks.length) cap) (0 + ks.length) ([] ++ ks.map (Value.int .i64))) : KidRow base w' (.slice (some ⟨g, 0, none⟩) ks.length cap) ks := by
  simpa [KidRow] using h
/-- A copy of a row of numbers, in a region: nothing for none. -/
theorem step_copy_kids {w : World} {ops : Array Oper} {o : Oper} {a : Act} {K : Act → World → Prop} {Q : Exit → Act → World → Prop} {E : Prop} (hgd : o.guard = none) (s x : Operand) (ho : o.op = .call { callee := .builtin .append, args := #[s, x], argTypes := #[65, 65] }) (base : Nat) (kv : Value) (ks : List Int) (hs : a.eval s = .slice none 0 0) (hx : a.eval x = kv) (hk : IntsAt w kv ks) (hl : ks.length ≤ 1048576) (hbase : base ≤ w.heap.size)
    (h : ∀ (ad : Option Addr) (cp : Nat) (w' : World), KidRow base w' (.slice ad ks.length cp) ks → Below w.heap.size w w' → (∀ b, (Value.slice ad ks.length cp).ownBlock = some b → w.heap.size ≤ b) → K (a.put o.dst (.slice ad ks.length cp)) w') : if Region.wanted o (yielded ops a.tmps) = true then Oper.wp Tryz.prog o a w K Q else E := by
  obtain ⟨i3, hi3, hz3, hs3, hb3⟩ := info_parts Tryz.info3
  obtain ⟨ad, cp, rfl, h1, h2, h3⟩ := hk
  by_cases h0 : ks.length = 0
  · have e : ks = [] := List.eq_nil_of_length_eq_zero h0
    subst e
    exact step_append_none hgd s x 65 ho 3 i3 Tryz.underlying65 hi3 none 0 0 (Nat.le_refl _) ad cp hs hx (h none 0 w (World.ownsRow_nil _ _ _ _) (Below.refl _ _) (fun b hb => by simp [Value.ownBlock] at hb))
  · obtain ⟨b, off, rfl, hc⟩ := h3 (by omega)
    refine step_append_lies _ hgd s x 65 ho base 3 i3 (.int .i64 0) 1 8 Tryz.underlying65 hi3 hz3 hs3 hb3 rfl (by omega) (.slice none 0 0) 0 [] hs (World.ownsRow_nil _ _ _ _) ⟨b, off, none⟩ ks.length cp (ks.map (Value.int .i64)) hx (by simp) (fun j u hu => ?_) (fun u hu => ?_) (by omega) (by unfold maxLen; omega) (by omega) hbase w.heap.size rfl (fun g cap w' q1 q2 q3 q4 => ?_)
    · rw [List.getElem?_map] at hu
      have hj : j < ks.length := by
        rcases Nat.lt_or_ge j ks.length with h | h
        · exact h
        · rw [List.getElem?_eq_none h] at hu; cases hu
      rw [List.getElem?_eq_getElem hj] at hu
      have hu := Option.some.inj hu
      rw [← hu, show (Addr.add ⟨b, off, none⟩ j) = ⟨b, off + j, none⟩ by simp [Addr.add]]
      exact hc j hj
    · obtain ⟨y, _, rfl⟩ := List.mem_map.1 hu; rfl
    · have e : 0 + ks.length = ks.length := Nat.zero_add _
      have hb : Below w.heap.size w w' := (Below.refl _ _).grown q2 (Nat.le_refl _) (fun k hk => by simp [Value.ownBlock] at hk)
      have := h (some ⟨g, 0, none⟩) cap w' (kid_copy q1) hb (fun k hk => by
        rcases q3 with q3 | q3
        · simp [Value.ownBlock] at q3
        · simp [Value.ownBlock] at hk; omega)
      rw [e]
      exact this
set_option maxRecDepth 20000 in
set_option maxHeartbeats 8000000 in
theorem copyLevel_any (v : Value) (ns : List Nd) (w : World) (hn : NodesAt w v ns) (hl : ns.length ≤ 1048576) (hkl : ∀ nd ∈ ns, nd.kids.length ≤ 1048576) :
    Calls Tryz.prog 151 #[.agg #[v]] w fun e w' => ∃ u, e = .returned (.agg #[u]) ∧ NdW w.heap.size w' u ns ∧ Below w.heap.size w w' := by
  obtain ⟨i174, hi174, hz174, hs174, hb174⟩ := info_parts Tryz.info174
  obtain ⟨i3, hi3, hz3, hs3, hb3⟩ := info_parts Tryz.info3
  obtain ⟨a, cap, rfl, hlc, hcm, hc⟩ := hn
  unfold maxLen at hcm
  have H : Hid (0 < ns.length → ∃ b off, a = some ⟨b, off, none⟩ ∧ ∀ i (h : i < ns.length), NodeAt w b (off + i * 3) ns[i]) := hc
  have HKL := hide hkl
  clear hc hkl
  obtain ⟨W2, hW2⟩ : ∃ W2, W2 = (w.alloc (.cells #[.slice a ns.length cap] 111)).alloc (.cells #[.slice none 0 0] 111) := ⟨_, rfl⟩
  have hb2 : Below w.heap.size w W2 := by rw [hW2]; exact bel_alloc (bel_alloc (Below.refl _ _) _) _
  have c0 : W2.cell? ⟨w.heap.size, 0, none⟩ = some (.slice a ns.length cap) := by rw [hW2]; simp [go_sem]
  have hr0 : W2.heap[w.heap.size + 1]? = some (.cells #[.slice none 0 0] 111 (0, 0)) := by rw [hW2]; exact heap_alloc_at _ _ (by simp)
  have l0 := lt_cell c0
  have hs2 : W2.heap.size = w.heap.size + 1 + 1 := by rw [hW2]; simp
  have HB2 := hide hb2
  have HR0 := hide hr0
  have HS2 := hide hs2
  clear hb2 hr0 hs2
  go_enter Tryz.func151, Tryz.ntmps151
  go_upto_region 1 with fail
  rw [← hW2]
  clear hW2
  go_wp2_with (first
    | (at_make
       refine wpList_make_own _ rfl _ _ 109 rfl w.heap.size 174 i174 (.agg #[.int .i64 0, .string ⟨#[]⟩, .slice none 0 0]) 3 Tryz.underlying109 hi174 hz174 hs174 .i64 .i64 (ns.length : Int) ns.length rfl rfl (by simp) (by rw [hb174]; omega) (by unfold maxLen; omega) HB2.out.size ?_
       intro w3 hown3 hgrow3
       have hb3 : Below W2.heap.size W2 w3 := (Below.refl _ _).grown hgrow3 (Nat.le_refl _) (fun k hk => by cases hk)
       have c0 := keep_cell hb3 c0
       have l0 := lt_cell c0
       have HB3 := hide (bel_trans HB2.out hb3)
       have HR3 : Hid (w3.heap[w.heap.size + 1]? = some (.cells #[.slice none 0 0] 111 (0, 0))) := by
         show _ = _
         rw [hb3.block _ (by have := HS2.out; omega)]; exact HR0.out
       have HO3 := hide hown3
       clear hown3 hgrow3 hb3)
    | fail)
  have HNW : Hid (NdW w.heap.size w3 (.slice (some ⟨W2.heap.size, 0, none⟩) 0 ns.length) (ns.take 0)) := ⟨[], by simpa using HO3.out, fun i h => by simp at h, fun i j h => by simp at h⟩
  have hRg : w.heap.size + 1 < W2.heap.size := by have := HS2.out; omega
  clear HO3 HB2 HR0 HS2
  generalize W2.heap.size = R at *
  go_loopw [3, 13] (fun r i wr => ∃ (j g cp : Nat), j ≤ ns.length ∧ i = .int .i64 j ∧ r = .slice (some ⟨g, 0, none⟩) j cp ∧ Hid (NdW w.heap.size wr (.slice (some ⟨g, 0, none⟩) j cp) (ns.take j)) ∧ Hid (wr.heap[w.heap.size + 1]? = some (.cells #[.slice none 0 0] 111 (0, 0))) ∧ Hid (Below w.heap.size w wr)) (fun _ i _ => ns.length - (intOf i).toNat)
  case atStart => exact ⟨0, R, ns.length, by omega, rfl, rfl, HNW, HR3, HB3⟩
  case round =>
    clear HNW HR3 HB3
    obtain ⟨j, g, cp, hj, rfl, rfl, HNJ, HRJ, HBJ⟩ := hrel
    have hwsz := HBJ.out.size
    have hrl : w.heap.size + 1 < wr.heap.size := (Array.getElem?_eq_some_iff.1 HRJ.out).1
    by_cases hlt : j < ns.length
    · have hlt' : (j : Int) < ns.length := by omega
      have HQ1 := hide (show j + 1 ≤ ns.length from hlt)
      obtain ⟨b, off, rfl, hcell⟩ := H.out (by omega)
      obtain ⟨d1, d2, kv, d3, hkv0⟩ := hcell j hlt
      have d1 := keep_cell HBJ.out d1
      have d2 := keep_cell HBJ.out d2
      have d3 := keep_cell HBJ.out d3
      have HKV := hide (fun W (h : Below w.heap.size w W) => hkv0.keep h)
      have hkll := HKL.out ns[j] (List.getElem_mem hlt)
      have HTK : Hid (ns.take (j + 1) = ns.take j ++ [ns[j]]) := List.take_succ_eq_append_getElem hlt
      have htl : (ns.take j).length = j := by rw [List.length_take]; omega
      have HTL := hide htl
      generalize ns[j] = nd at *
      obtain ⟨ka, kc, rfl, kq1, kq2, kq3⟩ := hkv0
      have hbl := lt_cell d1
      obtain ⟨W1, hW1⟩ : ∃ W1, W1 = wr.alloc (.cells #[.int .i64 nd.k, .string nd.s, .slice ka nd.kids.length kc] 174) := ⟨_, rfl⟩
      have hbW : Below wr.heap.size wr W1 := by rw [hW1]; exact bel_alloc (Below.refl _ _) _
      have g0 : W1.cell? ⟨wr.heap.size, 0, none⟩ = some (.int .i64 nd.k) := by rw [hW1]; simp [go_sem]
      have g1 : W1.cell? ⟨wr.heap.size, 1, none⟩ = some (.string nd.s) := by rw [hW1]; simp [go_sem]
      have g2 : W1.cell? ⟨wr.heap.size, 2, none⟩ = some (.slice ka nd.kids.length kc) := by rw [hW1]; simp [go_sem]
      have hgl := lt_cell g0
      have HG := hide (fun (wx : World) (h : wx.heap[wr.heap.size]? = W1.heap[wr.heap.size]?) => And.intro (heap_cell h g0) (And.intro (heap_cell h g1) (heap_cell h g2)))
      have hS0 : (fun w' : World => w'.heap[wr.heap.size]? = W1.heap[wr.heap.size]?) W1.drew := rfl
      have HBW := hide hbW
      have HKW := hide (HKV.out _ (bel_trans HBJ.out hbW.drew))
      clear hcell kq3 hbW HKV htl
      go_upto_region 5 with fail
      rw [← hW1]
      clear hW1 g0 g1 g2 d1 d2 d3
      refine anyE_region (L := 11) (S := fun w' : World => w'.heap[wr.heap.size]? = W1.heap[wr.heap.size]?) (by kernel_rfl) ?_
      refine anyE_take 0 (v := ?v1) rfl (by kernel_rfl) (by kernel_rfl) (by kernel_rfl) (by kernel_rfl) (fun _ _ _ h => h) (by rfl) ?hy1 hS0 ?rest1
      case hy1 =>
        intro wx hx
        obtain ⟨m0, m1, m2⟩ := HG.out wx hx
        go_simp
        try rfl
      case rest1 =>
      intro K hK
      go_simp
      refine hK.out _ ?_
      clear hK K
      refine anyE_take 1 (v := ?v2) rfl (by kernel_rfl) (by kernel_rfl) (by kernel_rfl) (by kernel_rfl) (fun _ _ _ h => h) (by rfl) ?hy2 hS0 ?rest2
      case hy2 =>
        intro wx hx
        obtain ⟨m0, m1, m2⟩ := HG.out wx hx
        go_simp
        try rfl
      case rest2 =>
      intro K hK
      go_simp
      refine hK.out _ ?_
      clear hK K
      refine anyE_take 2 (v := ?v3) rfl (by kernel_rfl) (by kernel_rfl) (by kernel_rfl) (by kernel_rfl) (fun _ _ _ h => h) (by rfl) ?hy3 hS0 ?rest3
      case hy3 =>
        intro wx hx
        obtain ⟨m0, m1, m2⟩ := HG.out wx hx
        go_simp
        try rfl
      case rest3 =>
      intro K hK
      go_simp
      refine hK.out _ ?_
      clear hK K
      refine anyE_take 3 (v := ?v4) rfl (by kernel_rfl) (by kernel_rfl) (by kernel_rfl) (by kernel_rfl) (fun _ _ _ h => h) (by rfl) ?hy4 hS0 ?rest4
      case hy4 =>
        intro wx hx
        obtain ⟨m0, m1, m2⟩ := HG.out wx hx
        go_simp
        try rfl
      case rest4 =>
      intro K hK
      go_simp
      refine hK.out _ ?_
      clear hK K
      refine anyE_take 4 (v := ?v5) rfl (by kernel_rfl) (by kernel_rfl) (by kernel_rfl) (by kernel_rfl) (fun _ _ _ h => h) (by rfl) ?hy5 hS0 ?rest5
      case hy5 =>
        intro wx hx
        obtain ⟨m0, m1, m2⟩ := HG.out wx hx
        go_simp
        try rfl
      case rest5 =>
      intro K hK
      go_simp
      refine hK.out _ ?_
      clear hK K
      refine anyE_take 5 (v := ?v6) rfl (by kernel_rfl) (by kernel_rfl) (by kernel_rfl) (by kernel_rfl) (fun _ _ _ h => h) (by rfl) ?hy6 hS0 ?rest6
      case hy6 =>
        intro wx hx
        obtain ⟨m0, m1, m2⟩ := HG.out wx hx
        go_simp
        try rfl
      case rest6 =>
      intro K hK
      go_simp
      refine hK.out _ ?_
      clear hK K
      refine anyE_take 6 (v := ?v7) rfl (by kernel_rfl) (by kernel_rfl) (by kernel_rfl) (by kernel_rfl) (fun _ _ _ h => h) (by rfl) ?hy7 hS0 ?rest7
      case hy7 =>
        intro wx hx
        obtain ⟨m0, m1, m2⟩ := HG.out wx hx
        go_simp
        try rfl
      case rest7 =>
      intro K hK
      go_simp
      refine hK.out _ ?_
      clear hK K
      refine anyE_one 7 (by kernel_rfl) rfl (fun K hK => ?_)
      refine step_copy_kids rfl _ _ rfl w.heap.size (.slice ka nd.kids.length kc) nd.kids rfl rfl HKW.out hkll (by have := HBJ.out.size; have := HBW.out.size; show w.heap.size ≤ W1.heap.size; omega) ?_
      intro ad2 cp2 w2 hkr2 hb2 hnew2
      have e2 : w2.heap[wr.heap.size]? = W1.heap[wr.heap.size]? := hb2.block _ hgl
      refine hK.out _ _ (fun _ => e2) ?_
      clear hK K hS0
      have hb2 : Below W1.heap.size W1 w2 := (Below.refl W1.heap.size W1).drew.trans hb2
      have hs2 := hb2.size
      have HKR2 := hide hkr2
      have HNEW2 : Hid (∀ b, (Value.slice ad2 nd.kids.length cp2).ownBlock = some b → wr.heap.size ≤ b) := fun b hb => by have h1 : W1.heap.size ≤ b := hnew2 b hb; have := HBW.out.size; omega
      have HB2 := hide (bel_trans HBW.out hb2)
      clear hkr2 hnew2 hb2 HKW
      refine anyE_one 8 (by kernel_rfl) rfl (fun K hK => ?_)
      go_simp
      refine hK.out _ _ (fun _ => e2) ?_
      clear hK K
      refine anyE_one 9 (by kernel_rfl) rfl (fun K hK => ?_)
      go_simp
      obtain ⟨W3, hW3⟩ : ∃ W3, W3 = w2.alloc (.cells #[.int .i64 nd.k, .string nd.s, .slice ad2 nd.kids.length cp2] 174) := ⟨_, rfl⟩
      rw [← hW3]
      have hb3 : Below w2.heap.size w2 W3 := by rw [hW3]; exact bel_alloc (Below.refl _ _) _
      have hh3 : W3.heap[w2.heap.size]? = some (.cells #[.int .i64 nd.k, .string nd.s, .slice ad2 nd.kids.length cp2] 174 (0, 0)) := by rw [hW3]; exact heap_alloc_new w2 _
      have e3 : W3.heap[wr.heap.size]? = W1.heap[wr.heap.size]? := (hb3.block _ (by have := HB2.out.size; omega)).trans e2
      refine hK.out _ _ (fun _ => e3) ?_
      clear hK K
      have hs3 := hb3.size
      have HB3 := hide (bel_trans HB2.out hb3)
      have HKR3 := hide (HKR2.out.keep hb3)
      clear hb3 HB2 HKR2 hW3
      obtain ⟨xs, ho, hx, hap⟩ := HNJ.out
      rw [HTL.out] at ho
      have HHO := hide ho
      have HHX := hide hx
      have HAP := hide hap
      have HOW3 := hide (row_keep HB3.out ho)
      clear ho hx hap
      refine anyE_one 10 (by kernel_rfl) rfl (fun K hK => ?_)
      refine step_append_lies _ rfl _ _ 109 rfl w.heap.size 174 i174 (.agg #[.int .i64 0, .string ⟨#[]⟩, .slice none 0 0]) 3 48 Tryz.underlying109 hi174 hz174 hs174 hb174 rfl (by omega) (.slice (some ⟨g, 0, none⟩) j cp) j xs rfl HOW3.out ⟨w2.heap.size, 0, none⟩ 1 1 [.int .i64 nd.k, .string nd.s, .slice ad2 nd.kids.length cp2] rfl rfl (World.news_of_block (cs := #[.int .i64 nd.k, .string nd.s, .slice ad2 nd.kids.length cp2]) (t := 174) (fr := (0, 0)) hh3) ?c2 (by omega) (by unfold maxLen; omega) (by omega) (by have := HB3.out.size; omega) W3.heap.size rfl ?_
      case c2 => intro u hu; simp at hu; rcases hu with rfl | rfl | rfl <;> rfl
      intro g4 cap4 w4 hown4 hgrow4 hat4 hlt4
      obtain ⟨csg, hcsg⟩ := row_tag HOW3.out
      have hgne : wr.heap.size ≠ g := fun e => by have h1 := (World.ownsRow.lt HHO.out g rfl).2; omega
      have hrne : w.heap.size + 1 ≠ g := fun e => by
        rw [← e, HB3.out.block _ hrl, HRJ.out] at hcsg
        have h2 := Option.some.inj hcsg
        injection h2 with _ h3 _
        cases h3
      have hsz3 := HB3.out.size
      have e4 : w4.heap[wr.heap.size]? = W1.heap[wr.heap.size]? := (hgrow4.block _ (by have := HBW.out.size; omega) (fun e => hgne (Option.some.inj e))).trans e3
      refine hK.out _ _ (fun _ => e4) ?_
      clear hK K
      have hend := NdW.snoc (nd := nd) (ns := ns.take j) HB3.out (by rw [HTL.out]; exact HHO.out) HHX.out HAP.out HKR3.out HNEW2.out hgrow4 (by rw [HTL.out]; exact hown4)
      rw [HTL.out, ← HTK.out] at hend
      have HE := hide hend.1
      have HG4 := hide hend.2
      have HR4 : Hid (w4.heap[w.heap.size + 1]? = some (.cells #[.slice none 0 0] 111 (0, 0))) := by
        show _ = _
        rw [hend.2.block _ hrl (fun e => hrne (Option.some.inj e))]; exact HRJ.out
      have HB4 : Hid (Below w.heap.size w w4) := HBJ.out.grown hend.2 HBJ.out.size (fun k hk => by
        simp [Value.ownBlock] at hk
        have := (World.ownsRow.lt HHO.out g rfl).1
        omega)
      clear hend hown4 hgrow4 hat4 hlt4 hcsg HHX HAP HOW3 HKR3 HNEW2
      refine anyE_one 11 (by kernel_rfl) rfl (fun K hK => ?_)
      go_simp
      refine hK.out _ _ (fun h => absurd rfl h) ?_
      clear hK K
      refine anyE_done (by kernel_rfl) ?_ _
      go_wp2_with fail
      go_roundw
      case rel => exact ⟨j + 1, g4, cap4, HQ1.out, by go_num, rfl, HE, HR4, HB4⟩
      case measure => have := HQ1.out; simp [intOf]; omega
    · have hlt' : ¬ (j : Int) < ns.length := by omega
      have e : j = ns.length := by omega
      subst e
      have HNE := HNJ.out
      rw [List.take_length] at HNE
      have HNE := hide HNE
      have f0 : wr.cell? ⟨w.heap.size + 1, 0, none⟩ = some (.slice none 0 0) := by rw [Lib.cell_of_heap HRJ.out]; rfl
      have f1 : wr.frozen? ⟨w.heap.size + 1, 0, none⟩ = false := Lib.frozen_of_heap HRJ.out 0
      have HRT := hide (show ∃ cs e, e ≠ 3 ∧ e ≠ 174 ∧ wr.heap[w.heap.size + 1]? = some (.cells cs e (0, 0)) from ⟨_, 111, by decide, by decide, HRJ.out⟩)
      go_wp2_with fail
      refine bodyPost_ret (v := .agg #[.slice (some ⟨g, 0, none⟩) ns.length cp]) (by simp [results, Tryz.results151, go_sem, f0]) rfl ⟨_, rfl, ?_, ?_⟩
      · obtain ⟨cs, e, q1, q2, q3⟩ := HRT.out
        exact NdW.set HNE.out q1 q2 q3 _
      · exact HBJ.out.setCell (p := ⟨_, _, _⟩) (by show _ ≤ w.heap.size + 1; omega) _
theorem NdR.widen {lo hi hi' : Nat} {w : World} {v : Value} {ns : List Nd} (h : NdR lo hi w v ns) (h2 : hi ≤ hi') : NdR lo hi' w v ns := by
  obtain ⟨xs, a, b, c, d⟩ := h
  refine ⟨xs, a, fun q hq => Nat.lt_of_lt_of_le (b q hq) h2, fun i hi => ?_, d⟩
  obtain ⟨q1, q2, kv, q3, q4, q5⟩ := c i hi
  exact ⟨q1, q2, kv, q3, q4, fun q hq => Nat.lt_of_lt_of_le (q5 q hq) h2⟩
set_option maxRecDepth 20000 in
set_option maxHeartbeats 8000000 in
theorem copyLevels_any (v : Value) (ls : List (List Nd)) (w : World) (hv : LevsAt w v ls) (hl : ls.length ≤ 1048576) (hsm : ∀ l ∈ ls, l.length ≤ 1048576 ∧ ∀ nd ∈ l, nd.kids.length ≤ 1048576) :
    Calls Tryz.prog 102 #[v] w fun e w' => ∃ ad cp, e = .returned (.slice ad ls.length cp) ∧ LsV w.heap.size w'.heap.size w' (.slice ad ls.length cp) ls ∧ Below w.heap.size w w' := by
  obtain ⟨i111, hi111, hz111, hs111, hb111⟩ := info_parts Tryz.info111
  obtain ⟨a, cap, rfl, hlc, hcm, hc⟩ := hv
  unfold maxLen at hcm
  have H : Hid (0 < ls.length → ∃ b off, a = some ⟨b, off, none⟩ ∧ ∀ i (h : i < ls.length), ∃ u, w.cell? ⟨b, off + i, none⟩ = some u ∧ NodesAt w u ls[i]) := hc
  have HSM := hide hsm
  have H0 : Hid (LsV w.heap.size w.heap.size w (.slice none 0 0) (ls.take 0)) := lsV_nil _ _ _
  clear hc hsm
  go_enter Tryz.func102, Tryz.ntmps102
  go_wp2_with fail
  go_loopw [3, 8] (fun r i wr => ∃ (j cp : Nat) (ad : Option Addr), j ≤ ls.length ∧ i = .int .i64 j ∧ r = .slice ad j cp ∧ Hid (LsV w.heap.size wr.heap.size wr (.slice ad j cp) (ls.take j)) ∧ Hid (Below w.heap.size w wr)) (fun _ i _ => ls.length - (intOf i).toNat)
  case atStart => exact ⟨0, 0, none, by omega, rfl, rfl, H0, Below.refl _ _⟩
  case round =>
    clear H0
    obtain ⟨j, cp, ad, hj, rfl, rfl, HLJ, HBJ⟩ := hrel
    have hwsz := HBJ.out.size
    by_cases hlt : j < ls.length
    · have hlt' : (j : Int) < ls.length := by omega
      have HQ1 := hide (show j + 1 ≤ ls.length from hlt)
      obtain ⟨b, off, rfl, hcell⟩ := H.out (by omega)
      obtain ⟨u0, d1, hu0⟩ := hcell j hlt
      have d1 := keep_cell HBJ.out d1
      have hbl := lt_cell d1
      obtain ⟨hq1, hq2⟩ := HSM.out ls[j] (List.getElem_mem hlt)
      have HTK : Hid (ls.take (j + 1) = ls.take j ++ [ls[j]]) := List.take_succ_eq_append_getElem hlt
      have htl : (ls.take j).length = j := by rw [List.length_take]; omega
      have HTL := hide htl
      generalize ls[j] = l at *
      have HU0 := hide (hu0.keep HBJ.out)
      obtain ⟨ua, uc, rfl, _, _, _⟩ := hu0
      obtain ⟨W1, hW1⟩ : ∃ W1, W1 = wr.alloc (.cells #[.slice ua l.length uc] 111) := ⟨_, rfl⟩
      have hbW : Below wr.heap.size wr W1 := by rw [hW1]; exact bel_alloc (Below.refl _ _) _
      have c1 : W1.cell? ⟨wr.heap.size, 0, none⟩ = some (.slice ua l.length uc) := by rw [hW1]; simp [go_sem]
      have hcl := lt_cell c1
      have HCP := hide (copyLevel_any (.slice ua l.length uc) l W1 (HU0.out.keep hbW) hq1 hq2)
      have HBW := hide hbW
      clear hcell hbW hq2 htl
      go_upto_region 5 with fail
      rw [← hW1]
      clear hW1 d1 hbl
      go_wp2_with fail
      refine HCP.out.mono ?_
      rintro e w2 ⟨u2, rfl, hu2, hb2⟩
      have hform : ∃ ua2 uc2, u2 = .slice ua2 l.length uc2 := by obtain ⟨xs2, h, _⟩ := hu2; exact row_form h
      obtain ⟨ua2, uc2, rfl⟩ := hform
      obtain ⟨W3, hW3⟩ : ∃ W3, W3 = w2.alloc (.cells #[.slice ua2 l.length uc2] 111) := ⟨_, rfl⟩
      have hb3 : Below w2.heap.size w2 W3 := by rw [hW3]; exact bel_alloc (Below.refl _ _) _
      have hh3 : W3.heap[w2.heap.size]? = some (.cells #[.slice ua2 l.length uc2] 111 (0, 0)) := by rw [hW3]; exact heap_alloc_new w2 _
      have HN3 : Hid (NdR W1.heap.size W3.heap.size W3 (.slice ua2 l.length uc2) l) := ((hu2.toR).keep hb3 (Nat.le_refl _)).widen hb3.size
      have hs2 := hb2.size
      have hs3 := hb3.size
      have HB3 := hide (bel_trans (bel_trans HBW.out hb2) hb3)
      have hWs := HBW.out.size
      obtain ⟨xs, s, t, ho, hrg, hown, hnd⟩ := HLJ.out
      rw [HTL.out] at ho
      have HHO := hide ho
      have HOW3 := hide (row_keep HB3.out ho)
      have HRG := hide hrg
      have HHN := hide hown
      have HND := hide hnd
      clear ho hrg hown hnd hu2 hb2 hb3 HCP c1 hcl
      go_wp2_with (first
        | (at_builtin
           rw [← hW3]
           refine wpList_append_lies _ rfl _ _ 54 rfl w.heap.size 111 i111 (.agg #[.slice none 0 0]) 1 24 Tryz.underlying54 hi111 hz111 hs111 hb111 rfl (by omega) (.slice ad j cp) j xs rfl HOW3.out ⟨w2.heap.size, 0, none⟩ 1 1 [.slice ua2 l.length uc2] rfl rfl (World.news_of_block (cs := #[.slice ua2 l.length uc2]) (t := 111) (fr := (0, 0)) hh3) (by intro u hu; simp at hu; rcases hu with rfl; rfl) (by omega) (by unfold maxLen; omega) (by omega) (by omega) W3.heap.size rfl ?_)
        | fail)
      intro g4 cap4 w4 hown4 hgrow4 hat4 hlt4
      rw [← hW3] at hgrow4
      have hsz3 : W3.heap.size = w2.heap.size + 1 := by rw [hW3]; simp
      have hend := LsV.snoc (ls := ls.take j) (l := l) (by omega) HB3.out (by rw [HTL.out]; exact HHO.out) HRG.out HHN.out HND.out (by omega) HN3.out (by omega) hgrow4 (by rcases hat4 with h | h; exact .inl h; exact .inr (by omega)) hlt4 (by rw [HTL.out]; exact hown4)
      rw [HTL.out, ← HTK.out] at hend
      have HE := hide hend
      have HB4 : Hid (Below w.heap.size w w4) := (HBJ.out.trans (HB3.out.mono hwsz)).grown hgrow4 (by omega) (fun k hk => (World.ownsRow.lt HHO.out k hk).1)
      clear hend hown4 hgrow4 hat4 hlt4 HOW3 HRG HHN HND HN3 hW3 hh3
      go_wp2_with fail
      go_roundw
      case rel => exact ⟨j + 1, cap4, some ⟨g4, 0, none⟩, HQ1.out, by go_num, rfl, HE, HB4⟩
      case measure => have := HQ1.out; simp [intOf]; omega
    · have hlt' : ¬ (j : Int) < ls.length := by omega
      have e : j = ls.length := by omega
      subst e
      have HE := HLJ.out
      rw [List.take_length] at HE
      have HE := hide HE
      go_wp2_with fail
      go_ret
      exact ⟨ad, cp, rfl, HE.out, HBJ.out⟩

end Go.Proofs.YtjkkojefpecbfaaGreat
