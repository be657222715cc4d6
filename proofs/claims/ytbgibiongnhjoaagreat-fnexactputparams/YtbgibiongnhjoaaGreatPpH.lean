/- What the program's PutParams answers. -/
import Derived.Test.YtbgibiongnhjoaaGreatSpA
import Derived.Test.YtbgibiongnhjoaaGreatPpG
import Derived.Test.YtbgibiongnhjoaaGreatTeFx
namespace Go.Proofs.YtbgibiongnhjoaaGreat
open Go.ChangeShapes Go.WideShapes Go.ChangeAt Go.RowKit

theorem strs_same {w w' : World} {v : Value} {ss : List ByteArray} (h : StrsAt w v ss) (hh : ∀ b : Nat, b < w.heap.size → w'.heap[b]? = w.heap[b]?) : StrsAt w' v ss := by
  obtain ⟨a, cap, h1, h2, h3, h4⟩ := h
  refine ⟨a, cap, h1, h2, h3, fun h0 => ?_⟩
  obtain ⟨b, off, h5, h6⟩ := h4 h0
  exact ⟨b, off, h5, fun j hj => heap_cell (hh b (lt_cell (h6 j hj))) (h6 j hj)⟩
theorem ints_same {w w' : World} {v : Value} {ks : List Int} (h : IntsAt w v ks) (hh : ∀ b : Nat, b < w.heap.size → w'.heap[b]? = w.heap[b]?) : IntsAt w' v ks := by
  obtain ⟨a, cap, h1, h2, h3, h4⟩ := h
  refine ⟨a, cap, h1, h2, h3, fun h0 => ?_⟩
  obtain ⟨b, off, h5, h6⟩ := h4 h0
  exact ⟨b, off, h5, fun j hj => heap_cell (hh b (lt_cell (h6 j hj))) (h6 j hj)⟩
theorem nodes_same {w w' : World} {v : Value} {ns : List Nd} (h : NodesAt w v ns) (hh : ∀ b : Nat, b < w.heap.size → w'.heap[b]? = w.heap[b]?) : NodesAt w' v ns := by
  obtain ⟨a, cap, h1, h2, h3, h4⟩ := h
  refine ⟨a, cap, h1, h2, h3, fun h0 => ?_⟩
  obtain ⟨b, off, h5, h6⟩ := h4 h0
  refine ⟨b, off, h5, fun j hj => ?_⟩
  obtain ⟨q1, q2, kv, q3, q4⟩ := h6 j hj
  have e := hh b (lt_cell q1)
  exact ⟨heap_cell e q1, heap_cell e q2, kv, heap_cell e q3, ints_same q4 hh⟩
theorem levs_same' {w w' : World} {v : Value} {ls : List (List Nd)} (h : LevsAt w v ls) (hh : ∀ b : Nat, b < w.heap.size → w'.heap[b]? = w.heap[b]?) : LevsAt w' v ls := by
  obtain ⟨a, cap, h1, h2, h3, h4⟩ := h
  refine ⟨a, cap, h1, h2, h3, fun h0 => ?_⟩
  obtain ⟨b, off, h5, h6⟩ := h4 h0
  refine ⟨b, off, h5, fun j hj => ?_⟩
  obtain ⟨u, q1, q2⟩ := h6 j hj
  exact ⟨u, heap_cell (hh b (lt_cell q1)) q1, nodes_same q2 hh⟩
theorem enter122 : ∀ args w, (callFunc 122 args).run Tryz.prog w = .ok (.enter 122 args) w := fun _ _ => by kernel_rfl
set_option maxRecDepth 20000 in
set_option maxHeartbeats 4000000 in
theorem putParams_any (base Sb mb gb clock : Nat) (L : List (Nk × Nat × Nat)) (Z : Nat → Zs) (H : Nat → Bool) (T : Tt) (b : Nat) (vn vl : Value) (names : List ByteArray) (ls : List (List Nd)) (w : World) (hs : St2 base w Sb mb gb clock L Z H) (hbase : base ≤ w.heap.size) (hT : IsT L T b) (hP : T.all nodeP) (hlen : names.length = ls.length) (hall : ls.all lvlB = true) (hfr : ∀ w' : World, (∀ b : Nat, b < base → w'.heap[b]? = w.heap[b]?) → StrsAt w' vn names ∧ LevsAt w' vl ls) :
    Calls Tryz.prog 73 #[.pointer (some ⟨Sb, 0, none⟩), .pointer (some ⟨b, 0, none⟩), vn, vl] w (WithOut2 base Sb mb gb L (parO names (ls.map treeOf) T) w) := by
  have hmf : ∀ (fn : Fn) (first cap : Array Value) (w : World), (Instr.makeFunc fn first cap).run Tryz.prog w = .ok (.func fn first cap) w := fun _ _ _ _ => rfl
  obtain ⟨W, hW⟩ : ∃ W, W = ((w.alloc (.cells #[.pointer (some ⟨Sb, 0, none⟩)] 82)).alloc (.cells #[vn] 48)).alloc (.cells #[vl] 54) := ⟨_, rfl⟩
  have hbW : Below w.heap.size w W := by rw [hW]; exact bel_alloc (bel_alloc (bel_alloc (Below.refl _ _) _) _) _
  have c0 : W.cell? ⟨w.heap.size, 0, none⟩ = some (.pointer (some ⟨Sb, 0, none⟩)) := by rw [hW]; simp [go_sem]
  have c1 : W.cell? ⟨w.heap.size + 1, 0, none⟩ = some vn := by rw [hW]; simp [go_sem]
  have c2 : W.cell? ⟨w.heap.size + 1 + 1, 0, none⟩ = some vl := by rw [hW]; simp [go_sem]
  have l0 := lt_cell c0
  have l1 := lt_cell c1
  have l2 := lt_cell c2
  have hml : mb < w.heap.size := (Array.getElem?_eq_some_iff.1 hs.mp).1
  have hmlo : base ≤ mb := hs.lows.2
  have hmem : ∀ x ∈ List.range base ++ [w.heap.size + 1, w.heap.size + 1 + 1, w.heap.size], x < base ∨ x = w.heap.size + 1 ∨ x = w.heap.size + 1 + 1 ∨ x = w.heap.size := fun x hx => by simpa using hx
  have hne : ∀ x ∈ List.range base ++ [w.heap.size + 1, w.heap.size + 1 + 1, w.heap.size], x ≠ mb := fun x hx => by rcases hmem x hx with h | rfl | rfl | rfl <;> omega
  have hcnt := (ist_lt2 hs hT).1
  have hI : ParInv base Sb (w.heap.size + 1) (w.heap.size + 1 + 1) w.heap.size vn vl names ls () W := ⟨c1, c2, c0, fun w' hw' => hfr w' (fun b hb => (hw' b hb).trans (hbW.block b (by omega)))⟩
  have HC := hide (change_any2 base Sb mb gb (fun k => k = mb) (List.range base ++ [w.heap.size + 1, w.heap.size + 1 + 1, w.heap.size]) [] (fun _ _ => True) (ParInv base Sb (w.heap.size + 1) (w.heap.size + 1 + 1) w.heap.size vn vl names ls) (knowQ names (ls.map treeOf)) 122 (.pointer (some ⟨w.heap.size + 1, 0, none⟩)) (.pointer (some ⟨w.heap.size + 1 + 1, 0, none⟩)) (.pointer (some ⟨w.heap.size, 0, none⟩)) 100000 enter122 rfl (fun k (hk : k = mb) => by omega) (fun s w w' h hh => h.same s w w' hh) (fun _ _ _ _ _ _ _ _ => trivial)
    (hide (parF_ok base Sb mb gb _ _ _ vn vl names ls 100000 hlen hall hne)) (by omega) hne T b () W clock L Z H (hs.keep hbW hbase) (Nat.le_trans hbase hbW.size) hT hP (by omega) (fun p hp => by cases hp) trivial hI (fun x hx => by rcases hmem x hx with h | rfl | rfl | rfl <;> omega) (fun k (hk : k = mb) => by have := hbW.size; omega))
  rw [chg_par names (ls.map treeOf) T 0 hP hcnt] at HC
  obtain ⟨na, nn, nc, rfl⟩ : ∃ na nn nc, vn = .slice na nn nc := by obtain ⟨x, y, e, _⟩ := (hfr w (fun _ _ => rfl)).1; exact ⟨_, _, _, e⟩
  obtain ⟨va, vvn, vc, rfl⟩ : ∃ na nn nc, vl = .slice na nn nc := by obtain ⟨x, y, e, _⟩ := (hfr w (fun _ _ => rfl)).2; exact ⟨_, _, _, e⟩
  generalize parO names (ls.map treeOf) T = r at *
  have HBW := hide hbW
  clear hs hT hP hne hmem hbW c1 c2 l1 l2 hI hfr hall hlen
  go_enter Tryz.func73, Tryz.ntmps73
  go_upto_region 1 with fail
  rw [← hW]
  clear hW
  go_wp2_with fail
  refine HC.out.mono ?_
  rintro e w1 ⟨b', clock', L', Z', H', rfl, h1, h2, h3, h4, h5⟩
  have H1 := hide h1
  have H2 := hide h2
  have H3 := hide (((grown_of HBW.out).but (some mb)).trans h3.one)
  have H5 := hide h5
  clear h1 h2 h3 h4 h5
  go_wp2_with fail
  go_ret
  exact ⟨b', clock', L', Z', H', rfl, H1.out, H2.out, H5.out, H3.out⟩
set_option maxRecDepth 20000 in
set_option maxHeartbeats 8000000 in
theorem implPutParams_any (v vn vl : Value) (ts : List Td) (T : Tt) (names : List ByteArray) (ls : List (List Nd)) (w : World) (hns : TNodesAt w v ts) (hsz : ∀ td ∈ ts, TLens td) (hsm : ∀ td ∈ ts, TSmall td) (hsp : ∀ td ∈ ts, (spell td.lv).length ≤ 1000000000) (hn : StrsAt w vn names) (hl : LevsAt w vl ls) (hlz : ∀ l ∈ ls, LvLens l) (hT : TreeFor ts T) :
    Calls Tryz.prog 35 #[.agg #[v], vn, vl] w fun e w' => TOut w.heap.size w' e (parA ts T names ls) ∧ Below w.heap.size w w' := by
  obtain ⟨A, hA⟩ : ∃ A, A = parA ts T names ls := ⟨_, rfl⟩
  rw [← hA]
  have HAA := hide hA
  clear hA
  obtain ⟨W, hW⟩ : ∃ W, W = (w.alloc (.cells #[v] 28)).alloc (.cells #[.slice none 0 0] 28) := ⟨_, rfl⟩
  have hbW : Below w.heap.size w W := by rw [hW]; exact bel_alloc (bel_alloc (Below.refl w.heap.size w) _) _
  have HNW := hide (hns.keep hbW)
  have HSN := hide (hn.keep hbW)
  have HLN := hide (hl.keep hbW)
  have HLZ := hide hlz
  have HSZ := hide hsz
  have HSM := hide hsm
  have HSP := hide hsp
  have HBW := hide hbW
  have HW := hide hW
  have HTT := hide hT
  obtain ⟨a, cap, rfl, _, _, _⟩ := hns
  obtain ⟨na, nc, rfl, _, _, _⟩ := hn
  obtain ⟨va, vc, rfl, _, _, _⟩ := hl
  have c0 : W.cell? ⟨w.heap.size, 0, none⟩ = some (.slice a ts.length cap) := by rw [hW]; simp [go_sem]
  have HR : Hid (W.heap[w.heap.size + 1]? = some (.cells #[.slice none 0 0] 28 (0, 0))) := by show _ = _; rw [hW]; exact heap_alloc_at _ _ (by simp)
  have l0 := lt_cell c0
  clear hsz hsm hsp hbW hW hT hlz
  go_enter Tryz.func35, Tryz.ntmps35
  go_upto_region 1 with fail
  rw [← HW.out]
  go_wp2_with fail
  refine (newStore_any W).mono ?_
  rintro e w2 ⟨⟨Sb, mb, gb, rfl, hs2⟩, hb2⟩
  have c2 := keep_cell hb2 c0
  have l2 := lt_cell c2
  have HS2 := hide hs2
  have HB2 := hide hb2
  clear hs2 hb2 HW
  go_wp2_with fail
  refine (read_any _ ts W w2 Sb mb gb _ _ HNW.out HSZ.out HSM.out HSP.out HB2.out HS2.out).mono ?_
  rintro e w3 ⟨he, hb3⟩
  have hrl : w.heap.size + 1 < W.heap.size := (Array.getElem?_eq_some_iff.1 HR.out).1
  have HR3 : Hid (w3.heap[w.heap.size + 1]? = some (.cells #[.slice none 0 0] 28 (0, 0))) := by show _ = _; rw [hb3.block _ hrl]; exact HR.out
  have HB3 := hide (bel_trans HBW.out hb3)
  have HBS := hide hb3.size
  have hWs := HBW.out.size
  have HFR : Hid (∀ w' : World, (∀ b : Nat, b < W.heap.size → w'.heap[b]? = w3.heap[b]?) → StrsAt w' (.slice na names.length nc) names ∧ LevsAt w' (.slice va ls.length vc) ls) := fun w' hw' => ⟨strs_same HSN.out (fun b hb => (hw' b hb).trans (hb3.block b hb)), levs_same' HLN.out (fun b hb => (hw' b hb).trans (hb3.block b hb))⟩
  clear c2 l2 HS2 HB2 hb3 HSZ HSM HSP HNW c0 l0
  have c3 : w3.cell? ⟨w.heap.size + 1, 0, none⟩ = some (.slice none 0 0) := by rw [Lib.cell_of_heap HR3.out]; rfl
  have f3 : w3.frozen? ⟨w.heap.size + 1, 0, none⟩ = false := Lib.frozen_of_heap HR3.out 0
  have l3 := lt_cell c3
  rcases he with ⟨ht, rfl⟩ | ⟨ht, pt, clock, L, Z, H, rfl, hs3, hr3⟩
  · have HE : Hid (A = ([], 1)) := by show _ = _; rw [HAA.out]; unfold parA; rw [if_neg (by simp [ht])]
    clear ht
    go_wp2_with fail
    exact bodyPost_ret (v := .tuple #[.agg #[.slice none 0 0], .int .i64 1]) (by simp [results, Tryz.results35, go_sem, c3]) rfl (by
      rw [HE.out]
      exact ⟨⟨_, rfl, tmV_nil _ _ _⟩, HB3.out.setCell (p := ⟨_, _, _⟩) (by show _ ≤ w.heap.size + 1; omega) _⟩)
  · have HNO := hide (namedOk_any _ _ names ls w3 (HFR.out w3 (fun _ _ => rfl)).1 (HFR.out w3 (fun _ _ => rfl)).2 HLZ.out)
    have HS3 := hide hs3
    have HRD := hide hr3
    have HTB := hide ht
    clear hs3 hr3 ht
    cases hnb : namedB names ls with
    | false =>
      have HE : Hid (A = ([], 1)) := by show _ = _; rw [HAA.out]; unfold parA; rw [if_neg (by simp [hnb])]
      rw [hnb] at HNO
      clear hnb
      go_wp2_with fail
      refine HNO.out.mono ?_
      rintro e w4 ⟨rfl, hb4⟩
      have hr4 : w4.heap[w.heap.size + 1]? = some (.cells #[.slice none 0 0] 28 (0, 0)) := by rw [hb4.block _ l3]; exact HR3.out
      have c4 : w4.cell? ⟨w.heap.size + 1, 0, none⟩ = some (.slice none 0 0) := by rw [Lib.cell_of_heap hr4]; rfl
      have f4 : w4.frozen? ⟨w.heap.size + 1, 0, none⟩ = false := Lib.frozen_of_heap hr4 0
      have l4 := lt_cell c4
      have HB4 := hide (bel_trans HB3.out hb4)
      clear hb4 hr4 HNO
      go_wp2_with fail
      exact bodyPost_ret (v := .tuple #[.agg #[.slice none 0 0], .int .i64 1]) (by simp [results, Tryz.results35, go_sem, c4]) rfl (by
        rw [HE.out]
        exact ⟨⟨_, rfl, tmV_nil _ _ _⟩, HB4.out.setCell (p := ⟨_, _, _⟩) (by show _ ≤ w.heap.size + 1; omega) _⟩)
    | true =>
      have HE : Hid (A = ansT (parO names (ls.map treeOf) T)) := by show _ = _; rw [HAA.out]; unfold parA; rw [if_pos ⟨HTB.out, hnb⟩]
      have hnb2 := hnb
      unfold namedB at hnb2
      rw [Bool.and_eq_true, decide_eq_true_eq] at hnb2
      obtain ⟨hlen, hall⟩ := hnb2
      rw [hnb] at HNO
      obtain ⟨hfl, hP⟩ := HTT.out HTB.out
      have hIs := rd_root HRD.out hfl
      have hcnt := (ist_lt HS3.out hIs).1
      have HPU := hide (fun (V : World) (hb : Below w3.heap.size w3 V) => putParams_any W.heap.size Sb mb gb clock L Z H T (pt (ts.length - 1)) (.slice na names.length nc) (.slice va ls.length vc) names ls V (HS3.out.two.keep hb HBS.out) (Nat.le_trans HBS.out hb.size) hIs hP hlen hall (fun w' hw' => HFR.out w' (fun b hb2 => (hw' b hb2).trans (hb.block b (by have := HBS.out; omega)))))
      have HLV : Hid (∀ T', parO names (ls.map treeOf) T = some T' → T'.all levP) := fun T' h => by
        unfold parO at h
        split at h
        · rename_i hg
          rw [← Option.some.inj h]
          exact par_lev (trees_ok hall).ok T hP hg
        · cases h
      have hml : mb < w3.heap.size := (Array.getElem?_eq_some_iff.1 HS3.out.mp).1
      have hmlo : W.heap.size ≤ mb := HS3.out.lows.2
      generalize pt (ts.length - 1) = rb at *
      generalize parO names (ls.map treeOf) T = rr at *
      clear hnb hfl hP hIs HAA hlen hall hcnt
      go_wp2_with fail
      refine HNO.out.mono ?_
      rintro e w4 ⟨rfl, hb4⟩
      have HP4 := hide (HPU.out w4 hb4)
      have HR4 : Hid (w4.heap[w.heap.size + 1]? = some (.cells #[.slice none 0 0] 28 (0, 0))) := by show _ = _; rw [hb4.block _ l3]; exact HR3.out
      have HB4 := hide (bel_trans HB3.out hb4)
      have hs4 := hb4.size
      clear hb4 c3 f3 l3 HNO HPU HR3
      go_wp2_with fail
      refine HP4.out.mono ?_
      rintro e w5 ⟨b5, clock5, L5, Z5, H5, rfl, hs5, hL5, hr5, hg5⟩
      have HST := hide (sizedTerm_any2 W.heap.size Sb mb gb clock5 L5 Z5 H5 w5 hs5 (by have := hg5.size; have := HBS.out; omega) rr b5 hr5 HLV.out)
      have hl4 : w.heap.size + 1 < w4.heap.size := (Array.getElem?_eq_some_iff.1 HR4.out).1
      have HR5 : Hid (w5.heap[w.heap.size + 1]? = some (.cells #[.slice none 0 0] 28 (0, 0))) := by show _ = _; rw [hg5.block _ hl4 (fun e => by have := Option.some.inj e; omega)]; exact HR4.out
      have HB5 := hide (HB4.out.grown hg5 HB4.out.size (fun k hk => by have := Option.some.inj hk; omega))
      clear hs5 hL5 hr5 hg5 HP4 HR4
      go_wp2_with fail
      refine HST.out.mono ?_
      rintro e w6 ⟨⟨v6, rfl, hv6⟩, hb6⟩
      obtain ⟨va6, vc6, rfl⟩ := hv6.form
      have hl5 : w.heap.size + 1 < w5.heap.size := (Array.getElem?_eq_some_iff.1 HR5.out).1
      have HR6 : Hid (w6.heap[w.heap.size + 1]? = some (.cells #[.slice none 0 0] 28 (0, 0))) := by show _ = _; rw [hb6.block _ hl5]; exact HR5.out
      have c6 : w6.cell? ⟨w.heap.size + 1, 0, none⟩ = some (.slice none 0 0) := by rw [Lib.cell_of_heap HR6.out]; rfl
      have f6 : w6.frozen? ⟨w.heap.size + 1, 0, none⟩ = false := Lib.frozen_of_heap HR6.out 0
      have l6 := lt_cell c6
      have HB6 := hide (bel_trans HB5.out hb6)
      have HV6 := hide (hv6.mono HB5.out.size (Nat.le_refl _))
      clear hv6 hb6 HST
      go_wp2_with fail
      refine bodyPost_ret (v := .tuple #[.agg #[.slice va6 (ansT rr).1.length vc6], .int .i64 (ansT rr).2]) (by simp [results, Tryz.results35, go_sem, c6]) rfl ⟨⟨_, by rw [HE.out], ?_⟩, ?_⟩
      · rw [HE.out, size_set]
        exact tmV_off' HV6.out HR6.out (by decide) (fun k hk => Below.heap_setCell w6 _ _ k hk)
      · exact HB6.out.setCell (p := ⟨_, _, _⟩) (by show _ ≤ w.heap.size + 1; omega) _
end Go.Proofs.YtbgibiongnhjoaaGreat
