/- What fold answers with the functions that Uses hands to it. -/
import Derived.Test.YtjkkojefpecbfaaGreatStH
import Derived.Test.YtjkkojefpecbfaaGreatTrA
import Derived.Test.YtjkkojefpecbfaaGreatTeC
namespace Go.Proofs.YtjkkojefpecbfaaGreat
open Go.ChangeShapes Go.WideShapes Go.ChangeAt Go.RowKit

/-- The first answers of the kids. -/
def kv3 (f : Nat → Int) (j q : Nat) : Int := if q < j then f q else 0
def k3 (f : Nat → Int) (j : Nat) : List Value := [.int .i64 (kv3 f j 0), .int .i64 (kv3 f j 1), .int .i64 (kv3 f j 2)]
theorem k3_set (f : Nat → Int) (j : Nat) (hj : j < 3) : (k3 f j).set j (.int .i64 (f j)) = k3 f (j + 1) := by
  rcases (show j = 0 ∨ j = 1 ∨ j = 2 by omega) with rfl | rfl | rfl <;> simp [k3, kv3]
/-- The block of the kids' answers. -/
def K3At (w : World) (b : Nat) (xs : List Value) : Prop := w.ownsRow 0 133 3 (.slice (some ⟨b, 0, none⟩) 1 1) 1 xs
theorem K3At.cell {w : World} {b : Nat} {xs : List Value} (h : K3At w b xs) (o : Nat) (ho : o < 3) : w.cell? ⟨b, o, none⟩ = xs[o]? := World.ownsRow.cellAt h o (by omega)
theorem K3At.set {w : World} {b : Nat} {xs : List Value} (h : K3At w b xs) (o : Nat) (u : Value) : K3At (w.setCell ⟨b, o, none⟩ u) b (xs.set o u) := (World.ownsRow.stored h o u).1
theorem K3At.frozen {w : World} {b : Nat} {xs : List Value} (h : K3At w b xs) (o : Nat) : w.frozen? ⟨b, o, none⟩ = false := World.ownsRow.frozenAt h o
theorem K3At.lt {w : World} {b : Nat} {xs : List Value} (h : K3At w b xs) : b < w.heap.size := (World.ownsRow.lt h b rfl).2

end Go.Proofs.YtjkkojefpecbfaaGreat

/- What fold answers with the functions that termOf hands to it: the nodes of a tree behind others. -/
namespace Go.Proofs.YtjkkojefpecbfaaGreat
open Go.ChangeShapes Go.WideShapes Go.ChangeAt Go.RowKit

/-- What is asked of the levels of a node. -/
def levP (h : Hd) (_ : Nat) : Prop := (∀ l ∈ h.lv, lvlB l = true) ∧ h.lv.length ≤ 1048576
theorem node_lev (h : Hd) (c : Nat) (hp : nodeP h c) : levP h c := ⟨lev_of hp.2, by have := (lv_small hp).1; omega⟩
/-- The nodes that were written so far, in the variable at nb. -/
def TmAt (lo nb : Nat) (w : World) (ts : List Td) : Prop := lo ≤ w.heap.size ∧ ∃ R cap, w.heap[nb]? = some (.cells #[.slice (some ⟨R, 0, none⟩) ts.length cap] 26 (0, 0)) ∧ TmV lo w.heap.size w (.slice (some ⟨R, 0, none⟩) ts.length cap) ts
theorem TmAt.keep {lo nb : Nat} {w w' : World} {ts : List Td} (h : TmAt lo nb w ts) (hb : Below w.heap.size w w') : TmAt lo nb w' ts := by
  obtain ⟨h0, R, cap, h1, h2⟩ := h
  exact ⟨Nat.le_trans h0 hb.size, R, cap, by rw [hb.block _ (Array.getElem?_eq_some_iff.1 h1).1]; exact h1, (h2.keep hb (Nat.le_refl _)).mono (Nat.le_refl _) hb.size⟩
theorem tmV_off' {lo hi : Nat} {w w' : World} {v : Value} {ts : List Td} {nb : Nat} {e0 : TypeId} {cs : Array Value} (h : TmV lo hi w v ts) (hn : w.heap[nb]? = some (.cells cs e0 (0, 0))) (he : e0 ≠ 67 ∧ e0 ≠ 111 ∧ e0 ≠ 174 ∧ e0 ≠ 3) (hh : ∀ k : Nat, k ≠ nb → w'.heap[k]? = w.heap[k]?) : TmV lo hi w' v ts := by
  have row : ∀ {base : Nat} {e : TypeId} {s n : Nat} {u : Value} {xs : List Value}, e0 ≠ e → w.ownsRow base e s u n xs → w'.ownsRow base e s u n xs := fun {base e s n u xs} he hr => row_same hr (fun g hg => hh g (fun eg => by
    rcases hr.2 with ⟨h1, _⟩ | ⟨g', cap, cur, h1, _, h4, _⟩
    · rw [h1] at hg; simp [Value.ownBlock] at hg
    · rw [h1] at hg
      have e1 : g' = g := by simpa [Value.ownBlock] using hg
      rw [e1, eg, hn] at h4
      have h5 := Option.some.inj h4
      injection h5 with _ h6 _
      exact he h6))
  obtain ⟨xs, s, t, h1, h2, h3, h4⟩ := h
  refine ⟨xs, s, t, row he.1 h1, h2, h3, fun i hi => ?_⟩
  obtain ⟨a, b, c, d, lv, kv, e, f, a', c', q1, q2, q3, ⟨ys, s', t', r1, r2, r3, r4⟩, q5, q6⟩ := h4 i hi
  refine ⟨a, b, c, d, lv, kv, e, f, a', c', q1, q2, q3, ⟨ys, s', t', row he.2.1 r1, r2, r3, fun j hj => ?_⟩, row he.2.2.2 q5, q6⟩
  obtain ⟨u, p1, zs, p2, p3, p4, p5⟩ := r4 j hj
  refine ⟨u, p1, zs, row he.2.2.1 p2, p3, fun k hk => ?_, p5⟩
  obtain ⟨z1, z2, kv', z3, z4, z5⟩ := p4 k hk
  exact ⟨z1, z2, kv', z3, row he.2.2.2 z4, z5⟩
theorem TmAt.off {lo nb kb : Nat} {w w' : World} {ts : List Td} {e0 : TypeId} {cs : Array Value} (h : TmAt lo nb w ts) (hn : w.heap[kb]? = some (.cells cs e0 (0, 0))) (he : e0 ≠ 67 ∧ e0 ≠ 111 ∧ e0 ≠ 174 ∧ e0 ≠ 3) (hk : kb ≠ nb) (hs : w'.heap.size = w.heap.size) (hh : ∀ k : Nat, k ≠ kb → w'.heap[k]? = w.heap[k]?) : TmAt lo nb w' ts := by
  obtain ⟨h0, R, cap, h1, h2⟩ := h
  exact ⟨by omega, R, cap, by rw [hh nb (Ne.symm hk)]; exact h1, by rw [hs]; exact tmV_off' h2 hn he hh⟩
theorem roots_get : ∀ (l : List Tt) (o j : Nat) (h : j < l.length), (rootsT l o).getD j 0 = ((o + cntT (l.take j) + l[j].cnt : Nat) : Int) - 1
  | [], _, _, h => by simp at h
  | T :: l, o, 0, _ => by simp [rootsT, cntT]
  | T :: l, o, j + 1, h => by
    have ih := roots_get l (o + T.cnt) j (by simpa using h)
    simp only [rootsT, List.getD_cons_succ, List.take_succ_cons, cntT, List.getElem_cons_succ]
    rw [ih]
    omega
theorem flat_kids (T : Tt) (o : Nat) : T.flat o = flatT T.kids o ++ [T.hd.td (rootsT T.kids o)] := by
  have h := mk_flat T.hd T.kids (kids_le T) o
  rw [mk_kids] at h
  exact h
theorem cnt_kids (T : Tt) : T.cnt = cntT T.kids + 1 := by
  have h := mk_cnt T.hd T.kids (kids_le T)
  rw [mk_kids] at h
  exact h
theorem kv3_take (l : List Int) (h : l.length ≤ 3) : [kv3 (fun i => l.getD i 0) l.length 0, kv3 (fun i => l.getD i 0) l.length 1, kv3 (fun i => l.getD i 0) l.length 2].take l.length = l := by
  match l, h with
  | [], _ => rfl
  | [a], _ => simp [kv3]
  | [a, b], _ => simp [kv3]
  | [a, b, c], _ => simp [kv3]
theorem cnt_take_le : ∀ (l : List Tt) (j : Nat), cntT (l.take j) ≤ cntT l
  | [], j => by simp [cntT]
  | T :: l, 0 => by simp [cntT]
  | T :: l, j + 1 => by have := cnt_take_le l j; simp only [List.take_succ_cons, cntT]; omega
theorem cnt_take_snoc (l : List Tt) (j : Nat) (h : j < l.length) : cntT (l.take (j + 1)) = cntT (l.take j) + l[j].cnt := by
  rw [List.take_succ_eq_append_getElem h, cntT_append]; simp [cntT]
theorem k3_heap' {w : World} {b : Nat} {xs : List Value} (h : K3At w b xs) : ∃ cs, w.heap[b]? = some (.cells cs 133 (0, 0)) := by
  rcases h.2 with ⟨h', _⟩ | ⟨g, cap, cur, h', _, h4, _⟩
  · simp at h'
  · simp only [Value.slice.injEq, Option.some.injEq, Addr.mk.injEq, and_true, true_and] at h'
    obtain ⟨rfl, rfl⟩ := h'
    exact ⟨cur, h4⟩
theorem k3_same' {w w' : World} {b : Nat} {xs : List Value} (h : K3At w b xs) (hh : w'.heap[b]? = w.heap[b]?) : K3At w' b xs := by
  refine ⟨h.1, ?_⟩
  rcases h.2 with h1 | ⟨g, cap, cur, h1, h2, h3, h4⟩
  · exact .inl h1
  · have e : g = b := by simp at h1; omega
    subst e
    exact .inr ⟨g, cap, cur, h1, h2, by rw [hh]; exact h3, h4⟩

set_option maxRecDepth 20000 in
set_option maxHeartbeats 8000000 in
theorem foldT_all (base Sb mb gb clock : Nat) (L : List (Nk × Nat × Nat)) (Z : Nat → Zs) (H : Nat → Bool) (w0 : World) (hs : St base w0 Sb mb gb clock L Z H) (hbase : base ≤ w0.heap.size) (nb lo : Nat) (hlo0 : w0.heap.size ≤ lo) (hnb0 : w0.heap.size ≤ nb) :
    ∀ (n : Nat) (T : Tt) (b : Nat) (u : Int) (w : World) (ts : List Td), T.cnt ≤ n → IsT L T b → T.all levP → 0 ≤ u → u + T.cnt ≤ 100000 → Below w0.heap.size w0 w → TmAt lo nb w ts → ts.length + T.cnt ≤ 100000 →
      Calls Tryz.prog 86 #[.pointer (some ⟨b, 0, none⟩), .int .i64 u, .func (.func 100) #[] #[], .func (.func 101) #[] #[.pointer (some ⟨nb, 0, none⟩)]] w fun e w' => e = .returned (.int .i64 (((ts.length + T.cnt : Nat) : Int) - 1)) ∧ TmAt lo nb w' (ts ++ T.flat ts.length) ∧ KeptT lo nb w w' := by
  intro n
  induction n with
  | zero => intro T _ _ _ _ h; have := T.cnt_pos; omega
  | succ n ih =>
  intro T b u w ts hn hT hP hu0 hu1 hb0 hts hlen
  have IH := hide ih
  have HS := hide hs
  have HBS := hide hbase
  have HP := hide hP
  have HT := hide hT
  have HB0 := hide hb0
  have HTS := hide hts
  have hcp := T.cnt_pos
  have hk3 := kids_le T
  obtain ⟨qs, c, hql, hqm, hqk⟩ := ist_open hT
  have hq3 : qs.length ≤ 3 := by omega
  have HQK := hide hqk
  obtain ⟨lv, ls, nbt, _⟩ := (hs.ents _ hqm).node
  have nbt : NbAt w0 b (tmL (keyP T.hd qs) lv (Z b) (H b)) := nbt
  have HNB := hide (fun (W : World) (h : Below w0.heap.size w0 W) => nbt.keep h)
  have har : tkidsN T.hd.k = qs.length := ent_arity (hs.ents _ hqm) hq3
  have hk0 : 0 ≤ tkidsN T.hd.k := by omega
  have hk3' : tkidsN T.hd.k ≤ 3 := by omega
  have hkn : (tkidsN T.hd.k).toNat = T.kids.length := by omega
  have HPA := hide (fun (W : World) (h : W.cell? ⟨b, 0, none⟩ = some (.int .i64 T.hd.k)) => parts_any b T.hd.k W h hk0 hk3')
  rw [hkn] at HPA
  have HBI := hide (fun (W : World) (j : Nat) (h : W.cell? ⟨b, 0, none⟩ = some (.int .i64 T.hd.k)) => binds_any b T.hd.k j W h hk0 hk3')
  have HBD := hide (fun q : Nat => show 0 ≤ bindN T.hd.k q ∧ bindN T.hd.k q ≤ 1 by unfold bindN; split <;> omega)
  have HKN := hide (termOf1_any b u w)
  have HCN := hide hn
  have HCK := hide (cnt_kids T)
  obtain ⟨f, hf⟩ : ∃ f : Nat → Int, f = fun i => (rootsT T.kids ts.length).getD i 0 := ⟨_, rfl⟩
  have HFG : Hid (∀ j (h : j < T.kids.length), f j = ((ts.length + cntT (T.kids.take j) + T.kids[j].cnt : Nat) : Int) - 1) := fun j h => by rw [hf]; exact roots_get T.kids ts.length j h
  have HF3 : Hid ([kv3 f T.kids.length 0, kv3 f T.kids.length 1, kv3 f T.kids.length 2].take T.kids.length = rootsT T.kids ts.length) := by
    show _ = _
    have h := kv3_take (rootsT T.kids ts.length) (by rw [rootsT_len]; exact hk3)
    rw [rootsT_len] at h
    rw [hf]
    exact h
  have HQL := hide hql
  clear ih hs hbase hP hT hb0 hts hqm hqk nbt har hk0 hk3' hkn hn hf hql
  go_enter Tryz.func86, Tryz.ntmps86
  go_wp2_with fail
  refine HKN.out.mono ?_
  rintro e w1 ⟨rfl, hw⟩
  have hw := hw.symm
  subst hw
  obtain ⟨W2, hW2⟩ : ∃ W2, W2 = w.alloc (.cells #[.int .i64 0, .int .i64 0, .int .i64 0] 133) := ⟨_, rfl⟩
  have hb2 : Below w.heap.size w W2 := by rw [hW2]; exact bel_alloc (Below.refl _ _) _
  have HKB : Hid (K3At W2 w.heap.size (k3 f 0)) := by
    show K3At _ _ _
    rw [hW2]
    exact ⟨rfl, .inr ⟨w.heap.size, 1, _, rfl, Nat.zero_le _, heap_alloc_new w _, Nat.le_refl _, by decide, rfl, rfl⟩⟩
  have HTM2 := hide (HTS.out.keep hb2)
  have HK2 : Hid (KeptT lo nb w W2) := KeptT.of hb2
  have a0 : W2.cell? ⟨b, 0, none⟩ = some (.int .i64 T.hd.k) := by rw [(HNB.out W2 (bel_trans HB0.out hb2)).cell 0 (by omega)]; rfl
  have HP2 := hide (HPA.out W2 a0)
  have hbl2 := lt_cell a0
  have hnbl : nb < w.heap.size := by obtain ⟨_, R, cap, h1, _⟩ := HTS.out; exact (Array.getElem?_eq_some_iff.1 h1).1
  clear hb2 HKN HPA
  go_upto_region 5 with fail
  rw [← hW2]
  clear hW2
  go_wp2_with fail
  refine HP2.out.mono ?_
  rintro e w3 ⟨rfl, hb3⟩
  have HK3 := hide (HK2.out.trans (KeptT.of hb3))
  have HTM3 : Hid (TmAt lo nb w3 (ts ++ flatT (T.kids.take 0) ts.length)) := by
    show TmAt _ _ _ _
    simpa [flatT] using HTM2.out.keep hb3
  have HKB3 : Hid (K3At w3 w.heap.size (k3 f 0)) := row_keep hb3 HKB.out
  clear hb3 HP2 HKB HK2 HTM2 a0 hbl2
  go_wp2_with fail
  go_loopw [26] (fun ii wr => ∃ (j : Nat), j ≤ T.kids.length ∧ ii = .int .i64 j ∧ Hid (K3At wr w.heap.size (k3 f j)) ∧ Hid (TmAt lo nb wr (ts ++ flatT (T.kids.take j) ts.length)) ∧ Hid (KeptT lo nb w wr)) (fun ii _ => T.kids.length - (intOf ii).toNat)
  case atStart => exact ⟨0, by omega, rfl, HKB3, HTM3, HK3⟩
  case round =>
    clear HKB3 HTM3 HK3
    obtain ⟨j, hj, rfl, HKJ, HTJ, HXJ⟩ := hrel
    have hkl := HKJ.out.lt
    have hwsz := HXJ.out.size
    have HBJ := hide (HXJ.out.below HB0.out HB0.out.size hlo0 hnb0)
    have nbj := HNB.out wr HBJ.out
    have d0 : wr.cell? ⟨b, 0, none⟩ = some (.int .i64 T.hd.k) := by rw [nbj.cell 0 (by omega)]; rfl
    by_cases hlt : j < T.kids.length
    · have hlt' : (j : Int) < T.kids.length := by omega
      have HQ1 := hide (show j + 1 ≤ T.kids.length from hlt)
      have hjq : j < qs.length := by have := HQL.out; omega
      have d5 := nb_kid nbj j (by omega)
      rw [keyP_kid _ _ hq3, List.getElem?_eq_getElem hjq] at d5
      simp only [pv] at d5
      have hAr := lt_cell d5
      have hck := kid_cnt T j hlt
      have hcn := HCN.out
      obtain ⟨bn0, bn1⟩ := HBD.out j
      have HCB := hide (HBI.out wr j d0)
      have hcs := cnt_take_snoc T.kids j hlt
      have hcl := cnt_take_le T.kids (j + 1)
      have hcT := HCK.out
      have hfl : (ts ++ flatT (T.kids.take j) ts.length).length = ts.length + cntT (T.kids.take j) := by rw [List.length_append, flatT_len]
      have HCF : Hid (∀ (W : World), Below wr.heap.size wr W → Calls Tryz.prog 86 #[.pointer (some ⟨qs[j], 0, none⟩), .int .i64 (u + bindN T.hd.k j), .func (.func 100) #[] #[], .func (.func 101) #[] #[.pointer (some ⟨nb, 0, none⟩)]] W fun e w' => e = .returned (.int .i64 (f j)) ∧ TmAt lo nb w' (ts ++ flatT (T.kids.take (j + 1)) ts.length) ∧ KeptT lo nb W w') := fun W hW => by
        have h := IH.out T.kids[j] qs[j] (u + bindN T.hd.k j) W (ts ++ flatT (T.kids.take j) ts.length) (by omega) (HQK.out j hjq hlt) (kid_all' T HP.out j hlt) (by omega) (by omega) (bel_trans HBJ.out hW) (HTJ.out.keep hW) (by rw [hfl]; omega)
        have e1 : ts ++ flatT (T.kids.take j) ts.length ++ T.kids[j].flat (ts ++ flatT (T.kids.take j) ts.length).length = ts ++ flatT (T.kids.take (j + 1)) ts.length := by
          rw [List.take_succ_eq_append_getElem hlt, flatT_append, hfl, List.append_assoc]
          simp only [flatT, List.append_nil]
          rfl
        rw [e1, hfl] at h
        rw [HFG.out j hlt]
        exact h
      have HNS := hide (k3_set f j (by omega))
      generalize qs[j] = P1 at *
      generalize bindN T.hd.k j = bn at *
      have hw1 : IntKind.i64.wrap (u + bn) = u + bn := by rw [IntKind.wrap_i64]; omega
      have hj3 : j < 3 := by omega
      clear nbj hck hcn hjq hcs hcl hcT hfl HTJ
      go_wp2_with fail
      refine HCB.out.mono ?_
      rintro e w4 ⟨rfl, hb4⟩
      have HCF4 := hide (HCF.out w4 hb4)
      have HX4 := hide (HXJ.out.trans (KeptT.of hb4))
      have HK4 : Hid (K3At w4 w.heap.size (k3 f j)) := row_keep hb4 HKJ.out
      clear hb4 HCB HKJ HXJ HBJ d0 d5 hAr HCF
      go_wp2_with fail
      refine HCF4.out.mono ?_
      rintro e w5 ⟨rfl, ht5, hk5⟩
      have hkb4 : w.heap.size < w4.heap.size := HK4.out.lt
      obtain ⟨cs4, hcs4⟩ := k3_heap' HK4.out
      have hK5 : K3At w5 w.heap.size (k3 f j) := k3_same' HK4.out (hk5.block _ hkb4 (by omega) (.inr (fun cs f h => by
        rw [hcs4] at h
        have h2 := Option.some.inj h
        injection h2 with _ h3 _
        cases h3)))
      have hd3 : ∃ ov, w5.cell? ⟨w.heap.size, j, none⟩ = some ov := by
        rw [hK5.cell j hj3]
        exact ⟨_, List.getElem?_eq_getElem (by show j < 3; omega)⟩
      obtain ⟨ov, d3⟩ := hd3
      have f3 := hK5.frozen j
      have hl5 := lt_cell d3
      obtain ⟨W6, hW6⟩ : ∃ W6, W6 = w5.setCell ⟨w.heap.size, j, none⟩ (.int .i64 (f j)) := ⟨_, rfl⟩
      have hNK : K3At W6 w.heap.size (k3 f (j + 1)) := by
        rw [← HNS.out, hW6]
        exact hK5.set j _
      have hs6 : W6.heap.size = w5.heap.size := by rw [hW6, size_set]
      have hh6 : ∀ k, k ≠ w.heap.size → W6.heap[k]? = w5.heap[k]? := fun k hk => by rw [hW6]; exact Below.heap_setCell w5 _ _ k hk
      obtain ⟨cs5, hcs5⟩ := k3_heap' hK5
      have HT6 := hide (ht5.off hcs5 (by decide) (by omega) hs6 hh6)
      have HX6 : Hid (KeptT lo nb w W6) := by
        show KeptT lo nb w W6
        have h := HX4.out.trans hk5
        exact ⟨by rw [hW6]; exact h.os, by rw [hW6]; exact h.tape, by rw [hW6]; exact h.output, by rw [hs6]; exact h.size, fun k hk hkn hc => by rw [hh6 k (by omega)]; exact h.block k hk hkn hc⟩
      have HNK := hide hNK
      clear ht5 hk5 hK5 hNK hcs5 hcs4 HK4 HX4 HCF4 hh6 hs6
      go_wp2_with fail
      rw [← hW6]
      clear hW6
      go_roundw
      case rel => exact ⟨j + 1, HQ1.out, by go_num, HNK, HT6, HX6⟩
      case measure => have := HQ1.out; simp [intOf]; omega
    · have hlt' : ¬ (j : Int) < T.kids.length := by omega
      have e : j = T.kids.length := by omega
      subst e
      have b0 : wr.cell? ⟨w.heap.size, 0, none⟩ = some (.int .i64 (kv3 f T.kids.length 0)) := by rw [HKJ.out.cell 0 (by omega)]; rfl
      have b1 : wr.cell? ⟨w.heap.size, 1, none⟩ = some (.int .i64 (kv3 f T.kids.length 1)) := by rw [HKJ.out.cell 1 (by omega)]; rfl
      have b2 : wr.cell? ⟨w.heap.size, 2, none⟩ = some (.int .i64 (kv3 f T.kids.length 2)) := by rw [HKJ.out.cell 2 (by omega)]; rfl
      have hT := HTJ.out
      rw [List.take_length] at hT
      have hcT := HCK.out
      have hfl : (ts ++ flatT T.kids ts.length).length = ts.length + cntT T.kids := by rw [List.length_append, flatT_len]
      obtain ⟨hloW, R, cap, hR, hV⟩ := hT
      have HJ := hide (termOf2_any base Sb mb gb clock L Z H w0 HS.out HBS.out T b HT.out (hd_all T HP.out).1 (hd_all T HP.out).2 wr HBJ.out nb R cap lo (ts ++ flatT T.kids ts.length) (rootsT T.kids ts.length) (kv3 f T.kids.length 0) (kv3 f T.kids.length 1) (kv3 f T.kids.length 2) hR hloW hV HF3.out.symm (by rw [hfl]; omega))
      have HEQ : Hid (((ts ++ flatT T.kids ts.length).length : Int) = ((ts.length + T.cnt : Nat) : Int) - 1) := by show _ = _; rw [hfl, hcT]; omega
      have HEF : Hid (ts ++ flatT T.kids ts.length ++ [T.hd.td (rootsT T.kids ts.length)] = ts ++ T.flat ts.length) := by show _ = _; rw [flat_kids T, List.append_assoc]
      have HEL : Hid ((ts ++ flatT T.kids ts.length).length + 1 = (ts ++ T.flat ts.length).length) := by show _ = _; rw [← HEF.out]; simp only [List.length_append, List.length_cons, List.length_nil]
      rw [HEF.out, HEL.out, HEQ.out] at HJ
      generalize kv3 f T.kids.length 0 = r0 at *
      generalize kv3 f T.kids.length 1 = r1 at *
      generalize kv3 f T.kids.length 2 = r2 at *
      clear hR hV hloW nbj d0 hfl hcT HKJ HTJ
      go_wp2_with fail
      refine HJ.out.mono ?_
      rintro e w6 ⟨rfl, ⟨R', cap', h1, h2⟩, hk6⟩
      have HX6 := hide (HXJ.out.trans hk6)
      have HT6 : Hid (TmAt lo nb w6 (ts ++ T.flat ts.length)) := ⟨by obtain ⟨h, _⟩ := HTS.out; have := HX6.out.size; omega, R', cap', h1, h2⟩
      clear h1 h2 hk6 HJ
      go_wp2_with fail
      go_ret
      exact ⟨rfl, HT6.out, HX6.out⟩
end Go.Proofs.YtjkkojefpecbfaaGreat
