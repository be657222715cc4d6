/- As in TeD, for a store whose levels may be the program's own. -/
import Derived.Test.YtbgibiongnhjoaaGreatTeD
import Derived.Test.YtbgibiongnhjoaaGreatTeCx
import Derived.Test.YtbgibiongnhjoaaGreatPpG
namespace Go.Proofs.YtbgibiongnhjoaaGreat
open Go.ChangeShapes Go.WideShapes Go.ChangeAt Go.RowKit

set_option maxRecDepth 20000 in
set_option maxHeartbeats 8000000 in
theorem foldT_all2 (base Sb mb gb clock : Nat) (L : List (Nk × Nat × Nat)) (Z : Nat → Zs) (H : Nat → Bool) (w0 : World) (hs : St2 base w0 Sb mb gb clock L Z H) (hbase : base ≤ w0.heap.size) (nb lo : Nat) (hlo0 : w0.heap.size ≤ lo) (hnb0 : w0.heap.size ≤ nb) :
    ∀ (n : Nat) (T : Tt) (b : Nat) (u : Int) (w : World) (ts : List Td), T.cnt ≤ n → IsT L T b → T.all levP → 0 ≤ u → u + T.cnt ≤ 100000 → Below w0.heap.size w0 w → TmAt lo nb w ts → ts.length + T.cnt ≤ 100000 →
      Calls Tryz.prog 86 #[.pointer (some ⟨b, 0, none⟩), .int .i64 u, .func (.func 100) #[] #[], .func (.func 101) #[] #[.pointer (some ⟨nb, 0, none⟩)]] w fun e w' => e = .returned (.int .i64 (((ts.length + T.cnt : Nat) : Int) - 1)) ∧ TmAt lo nb w' (ts ++ T.flat ts.length) ∧ KeptT lo nb w w' := by
  intro n
  induction n with
  | zero => intro T _ _ _ _ h; have := T.cnt_pos; omega
  | succ n ih =>
  intro T b u w ts hn hT hP hu0 hu1 hb0 hts hlen
  have IH := hide ih
  have HS := hide hs
  have HBS := hide hbase
  have HP := hide hP
  have HT := hide hT
  have HB0 := hide hb0
  have HTS := hide hts
  have hcp := T.cnt_pos
  have hk3 := kids_le T
  obtain ⟨qs, c, hql, hqm, hqk⟩ := ist_open hT
  have hq3 : qs.length ≤ 3 := by omega
  have HQK := hide hqk
  obtain ⟨lv, ls, nbt, _⟩ := (hs.ents _ hqm).node
  have nbt : NbAt w0 b (tmL (keyP T.hd qs) lv (Z b) (H b)) := nbt
  have HNB := hide (fun (W : World) (h : Below w0.heap.size w0 W) => nbt.keep h)
  have har : tkidsN T.hd.k = qs.length := ent_arity2 (hs.ents _ hqm) hq3
  have hk0 : 0 ≤ tkidsN T.hd.k := by omega
  have hk3' : tkidsN T.hd.k ≤ 3 := by omega
  have hkn : (tkidsN T.hd.k).toNat = T.kids.length := by omega
  have HPA := hide (fun (W : World) (h : W.cell? ⟨b, 0, none⟩ = some (.int .i64 T.hd.k)) => parts_any b T.hd.k W h hk0 hk3')
  rw [hkn] at HPA
  have HBI := hide (fun (W : World) (j : Nat) (h : W.cell? ⟨b, 0, none⟩ = some (.int .i64 T.hd.k)) => binds_any b T.hd.k j W h hk0 hk3')
  have HBD := hide (fun q : Nat => show 0 ≤ bindN T.hd.k q ∧ bindN T.hd.k q ≤ 1 by unfold bindN; split <;> omega)
  have HKN := hide (termOf1_any b u w)
  have HCN := hide hn
  have HCK := hide (cnt_kids T)
  obtain ⟨f, hf⟩ : ∃ f : Nat → Int, f = fun i => (rootsT T.kids ts.length).getD i 0 := ⟨_, rfl⟩
  have HFG : Hid (∀ j (h : j < T.kids.length), f j = ((ts.length + cntT (T.kids.take j) + T.kids[j].cnt : Nat) : Int) - 1) := fun j h => by rw [hf]; exact roots_get T.kids ts.length j h
  have HF3 : Hid ([kv3 f T.kids.length 0, kv3 f T.kids.length 1, kv3 f T.kids.length 2].take T.kids.length = rootsT T.kids ts.length) := by
    show _ = _
    have h := kv3_take (rootsT T.kids ts.length) (by rw [rootsT_len]; exact hk3)
    rw [rootsT_len] at h
    rw [hf]
    exact h
  have HQL := hide hql
  clear ih hs hbase hP hT hb0 hts hqm hqk nbt har hk0 hk3' hkn hn hf hql
  go_enter Tryz.func86, Tryz.ntmps86
  go_wp2_with fail
  refine HKN.out.mono ?_
  rintro e w1 ⟨rfl, hw⟩
  have hw := hw.symm
  subst hw
  obtain ⟨W2, hW2⟩ : ∃ W2, W2 = w.alloc (.cells #[.int .i64 0, .int .i64 0, .int .i64 0] 133) := ⟨_, rfl⟩
  have hb2 : Below w.heap.size w W2 := by rw [hW2]; exact bel_alloc (Below.refl _ _) _
  have HKB : Hid (K3At W2 w.heap.size (k3 f 0)) := by
    show K3At _ _ _
    rw [hW2]
    exact ⟨rfl, .inr ⟨w.heap.size, 1, _, rfl, Nat.zero_le _, heap_alloc_new w _, Nat.le_refl _, by decide, rfl, rfl⟩⟩
  have HTM2 := hide (HTS.out.keep hb2)
  have HK2 : Hid (KeptT lo nb w W2) := KeptT.of hb2
  have a0 : W2.cell? ⟨b, 0, none⟩ = some (.int .i64 T.hd.k) := by rw [(HNB.out W2 (bel_trans HB0.out hb2)).cell 0 (by omega)]; rfl
  have HP2 := hide (HPA.out W2 a0)
  have hbl2 := lt_cell a0
  have hnbl : nb < w.heap.size := by obtain ⟨_, R, cap, h1, _⟩ := HTS.out; exact (Array.getElem?_eq_some_iff.1 h1).1
  clear hb2 HKN HPA
  go_upto_region 5 with fail
  rw [← hW2]
  clear hW2
  go_wp2_with fail
  refine HP2.out.mono ?_
  rintro e w3 ⟨rfl, hb3⟩
  have HK3 := hide (HK2.out.trans (KeptT.of hb3))
  have HTM3 : Hid (TmAt lo nb w3 (ts ++ flatT (T.kids.take 0) ts.length)) := by
    show TmAt _ _ _ _
    simpa [flatT] using HTM2.out.keep hb3
  have HKB3 : Hid (K3At w3 w.heap.size (k3 f 0)) := row_keep hb3 HKB.out
  clear hb3 HP2 HKB HK2 HTM2 a0 hbl2
  go_wp2_with fail
  go_loopw [26] (fun ii wr => ∃ (j : Nat), j ≤ T.kids.length ∧ ii = .int .i64 j ∧ Hid (K3At wr w.heap.size (k3 f j)) ∧ Hid (TmAt lo nb wr (ts ++ flatT (T.kids.take j) ts.length)) ∧ Hid (KeptT lo nb w wr)) (fun ii _ => T.kids.length - (intOf ii).toNat)
  case atStart => exact ⟨0, by omega, rfl, HKB3, HTM3, HK3⟩
  case round =>
    clear HKB3 HTM3 HK3
    obtain ⟨j, hj, rfl, HKJ, HTJ, HXJ⟩ := hrel
    have hkl := HKJ.out.lt
    have hwsz := HXJ.out.size
    have HBJ := hide (HXJ.out.below HB0.out HB0.out.size hlo0 hnb0)
    have nbj := HNB.out wr HBJ.out
    have d0 : wr.cell? ⟨b, 0, none⟩ = some (.int .i64 T.hd.k) := by rw [nbj.cell 0 (by omega)]; rfl
    by_cases hlt : j < T.kids.length
    · have hlt' : (j : Int) < T.kids.length := by omega
      have HQ1 := hide (show j + 1 ≤ T.kids.length from hlt)
      have hjq : j < qs.length := by have := HQL.out; omega
      have d5 := nb_kid nbj j (by omega)
      rw [keyP_kid _ _ hq3, List.getElem?_eq_getElem hjq] at d5
      simp only [pv] at d5
      have hAr := lt_cell d5
      have hck := kid_cnt T j hlt
      have hcn := HCN.out
      obtain ⟨bn0, bn1⟩ := HBD.out j
      have HCB := hide (HBI.out wr j d0)
      have hcs := cnt_take_snoc T.kids j hlt
      have hcl := cnt_take_le T.kids (j + 1)
      have hcT := HCK.out
      have hfl : (ts ++ flatT (T.kids.take j) ts.length).length = ts.length + cntT (T.kids.take j) := by rw [List.length_append, flatT_len]
      have HCF : Hid (∀ (W : World), Below wr.heap.size wr W → Calls Tryz.prog 86 #[.pointer (some ⟨qs[j], 0, none⟩), .int .i64 (u + bindN T.hd.k j), .func (.func 100) #[] #[], .func (.func 101) #[] #[.pointer (some ⟨nb, 0, none⟩)]] W fun e w' => e = .returned (.int .i64 (f j)) ∧ TmAt lo nb w' (ts ++ flatT (T.kids.take (j + 1)) ts.length) ∧ KeptT lo nb W w') := fun W hW => by
        have h := IH.out T.kids[j] qs[j] (u + bindN T.hd.k j) W (ts ++ flatT (T.kids.take j) ts.length) (by omega) (HQK.out j hjq hlt) (kid_all' T HP.out j hlt) (by omega) (by omega) (bel_trans HBJ.out hW) (HTJ.out.keep hW) (by rw [hfl]; omega)
        have e1 : ts ++ flatT (T.kids.take j) ts.length ++ T.kids[j].flat (ts ++ flatT (T.kids.take j) ts.length).length = ts ++ flatT (T.kids.take (j + 1)) ts.length := by
          rw [List.take_succ_eq_append_getElem hlt, flatT_append, hfl, List.append_assoc]
          simp only [flatT, List.append_nil]
          rfl
        rw [e1, hfl] at h
        rw [HFG.out j hlt]
        exact h
      have HNS := hide (k3_set f j (by omega))
      generalize qs[j] = P1 at *
      generalize bindN T.hd.k j = bn at *
      have hw1 : IntKind.i64.wrap (u + bn) = u + bn := by rw [IntKind.wrap_i64]; omega
      have hj3 : j < 3 := by omega
      clear nbj hck hcn hjq hcs hcl hcT hfl HTJ
      go_wp2_with fail
      refine HCB.out.mono ?_
      rintro e w4 ⟨rfl, hb4⟩
      have HCF4 := hide (HCF.out w4 hb4)
      have HX4 := hide (HXJ.out.trans (KeptT.of hb4))
      have HK4 : Hid (K3At w4 w.heap.size (k3 f j)) := row_keep hb4 HKJ.out
      clear hb4 HCB HKJ HXJ HBJ d0 d5 hAr HCF
      go_wp2_with fail
      refine HCF4.out.mono ?_
      rintro e w5 ⟨rfl, ht5, hk5⟩
      have hkb4 : w.heap.size < w4.heap.size := HK4.out.lt
      obtain ⟨cs4, hcs4⟩ := k3_heap' HK4.out
      have hK5 : K3At w5 w.heap.size (k3 f j) := k3_same' HK4.out (hk5.block _ hkb4 (by omega) (.inr (fun cs f h => by
        rw [hcs4] at h
        have h2 := Option.some.inj h
        injection h2 with _ h3 _
        cases h3)))
      have hd3 : ∃ ov, w5.cell? ⟨w.heap.size, j, none⟩ = some ov := by
        rw [hK5.cell j hj3]
        exact ⟨_, List.getElem?_eq_getElem (by show j < 3; omega)⟩
      obtain ⟨ov, d3⟩ := hd3
      have f3 := hK5.frozen j
      have hl5 := lt_cell d3
      obtain ⟨W6, hW6⟩ : ∃ W6, W6 = w5.setCell ⟨w.heap.size, j, none⟩ (.int .i64 (f j)) := ⟨_, rfl⟩
      have hNK : K3At W6 w.heap.size (k3 f (j + 1)) := by
        rw [← HNS.out, hW6]
        exact hK5.set j _
      have hs6 : W6.heap.size = w5.heap.size := by rw [hW6, size_set]
      have hh6 : ∀ k, k ≠ w.heap.size → W6.heap[k]? = w5.heap[k]? := fun k hk => by rw [hW6]; exact Below.heap_setCell w5 _ _ k hk
      obtain ⟨cs5, hcs5⟩ := k3_heap' hK5
      have HT6 := hide (ht5.off hcs5 (by decide) (by omega) hs6 hh6)
      have HX6 : Hid (KeptT lo nb w W6) := by
        show KeptT lo nb w W6
        have h := HX4.out.trans hk5
        exact ⟨by rw [hW6]; exact h.os, by rw [hW6]; exact h.tape, by rw [hW6]; exact h.output, by rw [hs6]; exact h.size, fun k hk hkn hc => by rw [hh6 k (by omega)]; exact h.block k hk hkn hc⟩
      have HNK := hide hNK
      clear ht5 hk5 hK5 hNK hcs5 hcs4 HK4 HX4 HCF4 hh6 hs6
      go_wp2_with fail
      rw [← hW6]
      clear hW6
      go_roundw
      case rel => exact ⟨j + 1, HQ1.out, by go_num, HNK, HT6, HX6⟩
      case measure => have := HQ1.out; simp [intOf]; omega
    · have hlt' : ¬ (j : Int) < T.kids.length := by omega
      have e : j = T.kids.length := by omega
      subst e
      have b0 : wr.cell? ⟨w.heap.size, 0, none⟩ = some (.int .i64 (kv3 f T.kids.length 0)) := by rw [HKJ.out.cell 0 (by omega)]; rfl
      have b1 : wr.cell? ⟨w.heap.size, 1, none⟩ = some (.int .i64 (kv3 f T.kids.length 1)) := by rw [HKJ.out.cell 1 (by omega)]; rfl
      have b2 : wr.cell? ⟨w.heap.size, 2, none⟩ = some (.int .i64 (kv3 f T.kids.length 2)) := by rw [HKJ.out.cell 2 (by omega)]; rfl
      have hT := HTJ.out
      rw [List.take_length] at hT
      have hcT := HCK.out
      have hfl : (ts ++ flatT T.kids ts.length).length = ts.length + cntT T.kids := by rw [List.length_append, flatT_len]
      obtain ⟨hloW, R, cap, hR, hV⟩ := hT
      have HJ := hide (termOf2_any2 base Sb mb gb clock L Z H w0 HS.out HBS.out T b HT.out (hd_all T HP.out).1 (hd_all T HP.out).2 wr HBJ.out nb R cap lo (ts ++ flatT T.kids ts.length) (rootsT T.kids ts.length) (kv3 f T.kids.length 0) (kv3 f T.kids.length 1) (kv3 f T.kids.length 2) hR hloW hV HF3.out.symm (by rw [hfl]; omega))
      have HEQ : Hid (((ts ++ flatT T.kids ts.length).length : Int) = ((ts.length + T.cnt : Nat) : Int) - 1) := by show _ = _; rw [hfl, hcT]; omega
      have HEF : Hid (ts ++ flatT T.kids ts.length ++ [T.hd.td (rootsT T.kids ts.length)] = ts ++ T.flat ts.length) := by show _ = _; rw [flat_kids T, List.append_assoc]
      have HEL : Hid ((ts ++ flatT T.kids ts.length).length + 1 = (ts ++ T.flat ts.length).length) := by show _ = _; rw [← HEF.out]; simp only [List.length_append, List.length_cons, List.length_nil]
      rw [HEF.out, HEL.out, HEQ.out] at HJ
      generalize kv3 f T.kids.length 0 = r0 at *
      generalize kv3 f T.kids.length 1 = r1 at *
      generalize kv3 f T.kids.length 2 = r2 at *
      clear hR hV hloW nbj d0 hfl hcT HKJ HTJ
      go_wp2_with fail
      refine HJ.out.mono ?_
      rintro e w6 ⟨rfl, ⟨R', cap', h1, h2⟩, hk6⟩
      have HX6 := hide (HXJ.out.trans hk6)
      have HT6 : Hid (TmAt lo nb w6 (ts ++ T.flat ts.length)) := ⟨by obtain ⟨h, _⟩ := HTS.out; have := HX6.out.size; omega, R', cap', h1, h2⟩
      clear h1 h2 hk6 HJ
      go_wp2_with fail
      go_ret
      exact ⟨rfl, HT6.out, HX6.out⟩
end Go.Proofs.YtbgibiongnhjoaaGreat

/- As in TeE, for a store whose levels may be the program's own. -/
namespace Go.Proofs.YtbgibiongnhjoaaGreat
open Go.ChangeShapes Go.WideShapes Go.ChangeAt Go.RowKit

set_option maxRecDepth 20000 in
set_option maxHeartbeats 8000000 in
theorem termOf_any2 (base Sb mb gb clock : Nat) (L : List (Nk × Nat × Nat)) (Z : Nat → Zs) (H : Nat → Bool) (w : World) (hs : St2 base w Sb mb gb clock L Z H) (hbase : base ≤ w.heap.size) (T : Tt) (b : Nat) (hT : IsT L T b) (hP : T.all levP) :
    Calls Tryz.prog 55 #[.pointer (some ⟨b, 0, none⟩)] w fun e w' => ∃ g cap, e = .returned (.agg #[.slice (some ⟨g, 0, none⟩) T.cnt cap]) ∧ TmV w.heap.size w'.heap.size w' (.slice (some ⟨g, 0, none⟩) T.cnt cap) (T.flat 0) ∧ Below w.heap.size w w' := by
  have hmf : ∀ (fn : Fn) (first cap : Array Value) (w : World), (Instr.makeFunc fn first cap).run Tryz.prog w = .ok (.func fn first cap) w := fun _ _ _ _ => rfl
  obtain ⟨i67, hi67, hz67, hs67, hb67⟩ := info_parts Tryz.info67
  have hcnt := (ist_lt2 hs hT).1
  have hz := ist_z2 hs T.cnt T b (Nat.le_refl _) hT
  obtain ⟨qs, c, hql, hqm, _⟩ := ist_open hT
  obtain ⟨lv, ls, nbt, _⟩ := (hs.ents _ hqm).node
  have nbt : NbAt w b (tmL (keyP T.hd qs) lv (Z b) (H b)) := nbt
  rw [hz] at nbt
  have a9 : w.cell? ⟨b, 9, none⟩ = some (.int .i64 T.cnt) := by rw [nbt.cell 9 (by omega)]; show some (Value.int .i64 T.z.sz) = _; rw [T.z_sz]
  have hbl := lt_cell a9
  have HF := hide (fun (nb : Nat) (hnb : w.heap.size ≤ nb) (W : World) (hW : Below w.heap.size w W) (ht : TmAt w.heap.size nb W []) => foldT_all2 base Sb mb gb clock L Z H w hs hbase nb w.heap.size (Nat.le_refl _) hnb T.cnt T b 0 W [] (Nat.le_refl _) hT hP (Int.le_refl _) (by omega) hW ht (by simp; omega))
  have hfl : (T.flat 0).length = T.cnt := T.flat_len 0
  have HFL := hide hfl
  obtain ⟨W1, hW1⟩ : ∃ W1, W1 = w.alloc (.cells #[.slice none 0 0] 28) := ⟨_, rfl⟩
  have hb1 : Below w.heap.size w W1 := by rw [hW1]; exact bel_alloc (Below.refl _ _) _
  have hr1 : W1.heap[w.heap.size]? = some (.cells #[.slice none 0 0] 28 (0, 0)) := by rw [hW1]; exact heap_alloc_new w _
  have a9 := keep_cell hb1 a9
  have hbl := lt_cell a9
  have HB1 := hide hb1
  have HR1 := hide hr1
  have hs1 : w.heap.size < W1.heap.size := (Array.getElem?_eq_some_iff.1 hr1).1
  clear hs hbase hT hP hz hql hqm nbt hb1 hr1 hfl
  go_enter Tryz.func55, Tryz.ntmps55
  go_upto_region 1 with fail
  rw [← hW1]
  clear hW1
  go_wp2_with (first
    | (at_make
       refine wpList_make_own _ rfl _ _ 26 rfl w.heap.size 67 i67 (.agg #[.int .i64 0, .int .i64 0, .int .i64 0, .string ⟨#[]⟩, .slice none 0 0, .slice none 0 0]) 6 Tryz.underlying26 hi67 hz67 hs67 .i64 .i64 (T.cnt : Int) T.cnt rfl rfl (by simp) (by rw [hb67]; omega) (by unfold maxLen; omega) HB1.out.size ?_
       intro w2 hown2 hgrow2
       have hb2 : Below W1.heap.size W1 w2 := (Below.refl _ _).grown hgrow2 (Nat.le_refl _) (fun k hk => by cases hk)
       have hb3 : Below w2.heap.size w2 (w2.alloc (.cells #[.slice (some ⟨W1.heap.size, 0, none⟩) 0 T.cnt] 26)) := bel_alloc (Below.refl _ _) _
       have hh3 : (w2.alloc (.cells #[.slice (some ⟨W1.heap.size, 0, none⟩) 0 T.cnt] 26)).heap[w2.heap.size]? = some (.cells #[.slice (some ⟨W1.heap.size, 0, none⟩) 0 T.cnt] 26 (0, 0)) := heap_alloc_new w2 _
       have HB3 := hide (bel_trans (bel_trans HB1.out hb2) hb3)
       have HR3 : Hid ((w2.alloc (.cells #[.slice (some ⟨W1.heap.size, 0, none⟩) 0 T.cnt] 26)).heap[w.heap.size]? = some (.cells #[.slice none 0 0] 28 (0, 0))) := by
         show _ = _
         rw [hb3.block _ (Nat.lt_of_lt_of_le hs1 hb2.size), hb2.block _ hs1]; exact HR1.out
       have hsz2 := hb2.size
       have HTM : Hid (TmAt w.heap.size w2.heap.size (w2.alloc (.cells #[.slice (some ⟨W1.heap.size, 0, none⟩) 0 T.cnt] 26)) []) := by
         refine ⟨HB3.out.size, W1.heap.size, T.cnt, hh3, [], fun _ => 0, fun _ => 0, row_keep hb3 hown2, ⟨fun i h => by simp at h, fun i j _ h => by simp at h⟩, fun q hq => ⟨?_, fun i h => by simp at h⟩, fun i h => by simp at h⟩
         have e : q = W1.heap.size := by simp [Value.ownBlock] at hq; omega
         subst e
         have := (World.ownsRow.lt hown2 W1.heap.size rfl).2
         have := hb3.size
         omega
       obtain ⟨W3, hW3⟩ : ∃ W3, W3 = w2.alloc (.cells #[.slice (some ⟨W1.heap.size, 0, none⟩) 0 T.cnt] 26) := ⟨_, rfl⟩
       rw [← hW3] at HB3 HR3 HTM
       have hs3 : W3.heap.size = w2.heap.size + 1 := by rw [hW3]; simp
       have hnbl : w2.heap.size < W3.heap.size := by omega
       have HS3 := hide hs3
       clear hown2 hgrow2 hb2 hb3 hh3 hs3)
    | fail)
  rw [← hW3]
  have HC := hide (HF.out w2.heap.size (by have := HB1.out.size; omega) W3 HB3.out HTM.out)
  rw [show (([] : List Td).length + T.cnt : Nat) = T.cnt by simp] at HC
  clear hW3 HF HTM a9 hbl
  generalize hnb : w2.heap.size = nb at *
  have hnw : w.heap.size < nb := by omega
  clear hnb
  refine HC.out.mono ?_
  rintro e w4 ⟨rfl, ⟨hlo4, R, cap, h1, h2⟩, hk4⟩
  have hfl : ([] ++ T.flat ([] : List Td).length : List Td) = T.flat 0 := rfl
  rw [hfl, HFL.out] at h1
  rw [hfl, HFL.out] at h2
  have hr4 : w4.heap[w.heap.size]? = some (.cells #[.slice none 0 0] 28 (0, 0)) := by
    rw [hk4.block _ (by have := HB3.out.size; omega) (by omega) (.inr (fun cs f h => by
      rw [HR3.out] at h
      have h2 := Option.some.inj h
      injection h2 with _ h3 _
      cases h3))]
    exact HR3.out
  have c4 : w4.cell? ⟨nb, 0, none⟩ = some (.slice (some ⟨R, 0, none⟩) T.cnt cap) := by rw [Lib.cell_of_heap h1]; rfl
  have d4 : w4.cell? ⟨w.heap.size, 0, none⟩ = some (.slice none 0 0) := by rw [Lib.cell_of_heap hr4]; rfl
  have f4 : w4.frozen? ⟨w.heap.size, 0, none⟩ = false := Lib.frozen_of_heap hr4 0
  have l4 := lt_cell c4
  have l5 := lt_cell d4
  have HB4 := hide (hk4.below HB3.out HB3.out.size (Nat.le_refl _) (by omega))
  have HV4 := hide h2
  have HR4 := hide hr4
  clear h1 h2 hk4 hr4 hfl HC
  go_wp2_with fail
  refine bodyPost_ret (v := .agg #[.slice (some ⟨R, 0, none⟩) T.cnt cap]) (by simp [results, Tryz.results55, go_sem, d4]) rfl ⟨R, cap, rfl, ?_, ?_⟩
  · rw [size_set]
    exact tmV_off' HV4.out HR4.out (by decide) (fun k hk => Below.heap_setCell w4 _ _ k hk)
  · exact HB4.out.setCell (p := ⟨_, _, _⟩) (by show _ ≤ w.heap.size; omega) _
end Go.Proofs.YtbgibiongnhjoaaGreat

/- As in TeF, for a store whose levels may be the program's own. -/
namespace Go.Proofs.YtbgibiongnhjoaaGreat
open Go.ChangeShapes Go.WideShapes Go.ChangeAt Go.RowKit

theorem ptr_ist2 {base : Nat} {w : World} {Sb mb gb clock : Nat} {L : List (Nk × Nat × Nat)} {Z : Nat → Zs} {H : Nat → Bool} (hs : St2 base w Sb mb gb clock L Z H) {T : Tt} {b : Nat} (h : IsT L T b) : PtrOk w (some b) := fun x hx => by
  have e := Option.some.inj hx
  subst e
  obtain ⟨ps, c, hl, hm, hk⟩ := ist_open h
  obtain ⟨cs, h1⟩ := (hs.ents _ hm).ptr
  exact ⟨cs, 131, h1⟩
theorem ptr_great2 {base : Nat} {w : World} {Sb mb gb clock : Nat} {L : List (Nk × Nat × Nat)} {Z : Nat → Zs} {H : Nat → Bool} (hs : St2 base w Sb mb gb clock L Z H) : PtrOk w (some gb) := fun x hx => by
  have e := Option.some.inj hx
  subst e
  obtain ⟨cs, h1⟩ := nb_heap hs.great
  exact ⟨cs, 131, h1⟩
set_option maxRecDepth 20000 in
set_option maxHeartbeats 8000000 in
theorem sizedTerm_any2 (base Sb mb gb clock : Nat) (L : List (Nk × Nat × Nat)) (Z : Nat → Zs) (H : Nat → Bool) (w : World) (hs : St2 base w Sb mb gb clock L Z H) (hbase : base ≤ w.heap.size) (r : Option Tt) (b : Nat) (hr : Res gb L r b) (hP : ∀ T, r = some T → T.all levP) :
    Calls Tryz.prog 62 #[.pointer (some ⟨Sb, 0, none⟩), .pointer (some ⟨b, 0, none⟩)] w fun e w' => TOut w.heap.size w' e (ansT r) ∧ Below w.heap.size w w' := by
  have s1 := hs.cell.2
  have hsl := lt_cell s1
  obtain ⟨W, hW⟩ : ∃ W, W = w.alloc (.cells #[.slice none 0 0] 28) := ⟨_, rfl⟩
  have hbW : Below w.heap.size w W := by rw [hW]; exact bel_alloc (Below.refl _ _) _
  have hsW := hs.keep hbW hbase
  have c0 : W.cell? ⟨w.heap.size, 0, none⟩ = some (.slice none 0 0) := by rw [hW]; simp [go_sem]
  have f0 : W.frozen? ⟨w.heap.size, 0, none⟩ = false := by rw [hW]; simp [go_sem]
  have l0 := lt_cell c0
  have s1 := hsW.cell.2
  have hsl := lt_cell s1
  have HBW := hide hbW
  cases r with
  | none =>
    have e : b = gb := hr
    subst e
    have HE : Hid (ansT none = ([], 3)) := rfl
    rw [HE.out]
    have heq := eql_node b b W (ptr_great2 hsW) (ptr_great2 hsW)
    have hd : decide (b = b) = true := by simp
    rw [hd] at heq
    clear hs hP hr hsW hbW hd
    go_enter Tryz.func62, Tryz.ntmps62
    go_upto_region 1 with fail
    rw [← hW]
    clear hW
    go_wp2_with fail
    refine bodyPost_ret (v := .tuple #[.agg #[.slice none 0 0], .int .i64 3]) (by simp [results, Tryz.results62, go_sem, c0]) rfl ⟨⟨_, rfl, tmV_nil _ _ _⟩, ?_⟩
    exact HBW.out.setCell (p := ⟨_, _, _⟩) (by show _ ≤ w.heap.size; omega) _
  | some T =>
    have hT : IsT L T b := hr
    have hne := (ist_lt2 hs hT).2.1
    have HE : Hid (ansT (some T) = (T.flat 0, 0)) := rfl
    rw [HE.out]
    have heq := eql_node b gb W (ptr_ist2 hsW hT) (ptr_great2 hsW)
    have hd : decide (b = gb) = false := by simp [hne]
    rw [hd] at heq
    have HT := hide (termOf_any2 base Sb mb gb clock L Z H W hsW (Nat.le_trans hbase hbW.size) T b hT (hP T rfl))
    have HR : Hid (W.heap[w.heap.size]? = some (.cells #[.slice none 0 0] 28 (0, 0))) := by show _ = _; rw [hW]; exact heap_alloc_new w _
    clear hs hP hr hT hsW hbW hd hne
    go_enter Tryz.func62, Tryz.ntmps62
    go_upto_region 1 with fail
    rw [← hW]
    clear hW
    go_wp2_with fail
    refine HT.out.mono ?_
    rintro e w2 ⟨g, cap, rfl, hv, hb2⟩
    have c2 := keep_cell hb2 c0
    have f2 : w2.frozen? ⟨w.heap.size, 0, none⟩ = false := by
      obtain ⟨hc, hf⟩ := bcell hb2
      rw [hf _ _ l0]; exact f0
    have l2 := lt_cell c2
    have HB2 := hide (bel_trans HBW.out hb2)
    have HR2 : Hid (w2.heap[w.heap.size]? = some (.cells #[.slice none 0 0] 28 (0, 0))) := by show _ = _; rw [hb2.block _ l0]; exact HR.out
    have HV := hide (hv.mono HBW.out.size (Nat.le_refl _))
    clear hv hb2
    go_wp2_with fail
    refine bodyPost_ret (v := .tuple #[.agg #[.slice (some ⟨g, 0, none⟩) T.cnt cap], .int .i64 0]) (by simp [results, Tryz.results62, go_sem, c2]) rfl ⟨⟨_, rfl, ?_⟩, ?_⟩
    · rw [size_set]
      exact tmV_off' HV.out HR2.out (by decide) (fun k hk => Below.heap_setCell w2 _ _ k hk)
    · exact HB2.out.setCell (p := ⟨_, _, _⟩) (by show _ ≤ w.heap.size; omega) _
end Go.Proofs.YtbgibiongnhjoaaGreat
