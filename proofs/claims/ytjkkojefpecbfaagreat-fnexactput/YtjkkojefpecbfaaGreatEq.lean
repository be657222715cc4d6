/- Rows of nodes of levels within a range of blocks, and their marks. -/
import Derived.Test.YtjkkojefpecbfaaGreatMkB
import Derived.Deep.RegionWith
import Derived.Deep.RegionHeld3
import Derived.Test.YtjkkojefpecbfaaGreatStrs
namespace Go.Proofs.YtjkkojefpecbfaaGreat
open Go.ChangeShapes Go.WideShapes Go.ChangeAt Go.RowKit

/-- A row of nodes that lies within a range of blocks. -/
def NdR (lo hi : Nat) (w : World) (v : Value) (ns : List Nd) : Prop :=
  ∃ xs, w.ownsRow lo 174 3 v ns.length xs ∧ (∀ b, v.ownBlock = some b → b < hi) ∧ (∀ i (h : i < ns.length), xs[i * 3]? = some (.int .i64 ns[i].k) ∧ xs[i * 3 + 1]? = some (.string ns[i].s) ∧ ∃ kv, xs[i * 3 + 2]? = some kv ∧ KidRow lo w kv ns[i].kids ∧ ∀ b, kv.ownBlock = some b → b < hi) ∧ Apart xs ns.length
theorem NdW.toR {lo : Nat} {w : World} {v : Value} {ns : List Nd} (h : NdW lo w v ns) : NdR lo w.heap.size w v ns := by
  obtain ⟨xs, h1, h2, h3⟩ := h
  refine ⟨xs, h1, fun b hb => (World.ownsRow.lt h1 b hb).2, fun i hi => ?_, h3⟩
  obtain ⟨a, b, kv, c, d⟩ := h2 i hi
  exact ⟨a, b, kv, c, d, fun b hb => (World.ownsRow.lt d b hb).2⟩
/-- Where the blocks of the range are as before. -/
theorem NdR.same {lo hi : Nat} {w w' : World} {v : Value} {ns : List Nd} (h : NdR lo hi w v ns) (hh : ∀ b, lo ≤ b → b < hi → w'.heap[b]? = w.heap[b]?) : NdR lo hi w' v ns := by
  obtain ⟨xs, h1, h0, h2, h3⟩ := h
  refine ⟨xs, row_same h1 (fun g hg => hh g (World.ownsRow.lt h1 g hg).1 (h0 g hg)), h0, fun i hi => ?_, h3⟩
  obtain ⟨a, b, kv, c, d, e⟩ := h2 i hi
  exact ⟨a, b, kv, c, row_same d (fun g hg => hh g (World.ownsRow.lt d g hg).1 (e g hg)), e⟩
theorem NdR.out {lo hi l2 h2 : Nat} {w w' : World} {v : Value} {ns : List Nd} (h : NdR lo hi w v ns) (hc : Chg l2 h2 w w') (hd : hi ≤ l2 ∨ h2 ≤ lo) (hl : hi ≤ w.heap.size) : NdR lo hi w' v ns :=
  h.same fun b h3 h4 => hc.out (by omega) (by omega)
theorem NdR.keep {lo hi : Nat} {w w' : World} {v : Value} {ns : List Nd} (h : NdR lo hi w v ns) (hb : Below w.heap.size w w') (hl : hi ≤ w.heap.size) : NdR lo hi w' v ns :=
  h.same fun b _ h4 => hb.block b (by omega)
theorem NdR.form {lo hi : Nat} {w : World} {v : Value} {ns : List Nd} (h : NdR lo hi w v ns) : ∃ a cap, v = .slice a ns.length cap := by
  obtain ⟨xs, h1, _⟩ := h; exact row_form h1
theorem NdR.nodes {lo hi : Nat} {w : World} {v : Value} {ns : List Nd} (h : NdR lo hi w v ns) : NodesAt w v ns := by
  obtain ⟨xs, h1, _, h2, _⟩ := h
  rcases h1.2 with ⟨h3, h4⟩ | ⟨g, cap, cur, h3, h4⟩
  · exact ⟨none, 0, by rw [h3, h4], by omega, by unfold maxLen; omega, fun h => by omega⟩
  · subst h3
    exact NdRow.nodes (Q := fun _ => True) ⟨xs, h1, fun i hi => by obtain ⟨a, b, kv, c, d, _⟩ := h2 i hi; exact ⟨a, b, kv, c, d, fun _ _ => trivial⟩⟩
/-- How many marks a list of nodes takes. -/
def costN : List Nd → Nat
  | [] => 0
  | nd :: ns => 2 + nd.kids.length + costN ns
def markN (k : Nat) : List Nd → List Nd
  | [] => []
  | nd :: ns => ⟨(k : Int), mt (k + 1), nums (k + 2) nd.kids.length⟩ :: markN (k + 2 + nd.kids.length) ns
theorem costN_append (a b : List Nd) : costN (a ++ b) = costN a + costN b := by
  induction a with
  | nil => simp [costN]
  | cons x a ih => simp [costN, ih]; omega
theorem markN_append (a b : List Nd) : ∀ k, markN k (a ++ b) = markN k a ++ markN (k + costN a) b := by
  induction a with
  | nil => intro k; simp [markN, costN]
  | cons x a ih => intro k; simp only [List.cons_append, markN, ih, costN]; rw [show k + 2 + x.kids.length + costN a = k + (2 + x.kids.length + costN a) by omega]
theorem markN_len (ns : List Nd) : ∀ k, (markN k ns).length = ns.length := by
  induction ns with
  | nil => intro k; rfl
  | cons x a ih => intro k; simp [markN, ih]
theorem costN_snoc (ns : List Nd) (i : Nat) (h : i < ns.length) : costN (ns.take (i + 1)) = costN (ns.take i) + (2 + ns[i].kids.length) := by
  rw [List.take_succ_eq_append_getElem h, costN_append]; simp [costN]
theorem costN_le (ns : List Nd) (i : Nat) : costN (ns.take i) ≤ costN ns := by
  conv => rhs; rw [← List.take_append_drop i ns, costN_append]
  omega
/-- Some nodes marked, the others not yet. -/
def partN (k : Nat) (ns : List Nd) (i : Nat) : List Nd := markN k (ns.take i) ++ ns.drop i
theorem partN_len (k : Nat) (ns : List Nd) (i : Nat) : (partN k ns i).length = ns.length := by
  unfold partN; rw [List.length_append, markN_len, ← List.length_append, List.take_append_drop]
theorem partN_get (k : Nat) (ns : List Nd) (i : Nat) (h : i < ns.length) : (partN k ns i)[i]? = some ns[i] := by
  unfold partN
  have hl : (markN k (ns.take i)).length = i := by rw [markN_len]; simp; omega
  rw [List.getElem?_append_right (by omega), hl, Nat.sub_self, List.drop_eq_getElem_cons h]; rfl
theorem partN_set (k : Nat) (ns : List Nd) (i : Nat) (h : i < ns.length) : (partN k ns i).set i ⟨((k + costN (ns.take i) : Nat) : Int), mt (k + costN (ns.take i) + 1), nums (k + costN (ns.take i) + 2) ns[i].kids.length⟩ = partN k ns (i + 1) := by
  unfold partN
  have hl : (markN k (ns.take i)).length = i := by rw [markN_len]; simp; omega
  rw [List.set_append_right _ _ (by omega), hl, Nat.sub_self, List.drop_eq_getElem_cons h, List.set_cons_zero, List.take_succ_eq_append_getElem h, markN_append]
  simp [markN]
/-- One node written anew, within its own blocks. -/
theorem NdR.put {lo hi : Nat} {w w1 w2 : World} {g cap : Nat} {ns : List Nd} {xs : List Value} {i : Nat} {kv : Value} {k : Int} {s : ByteArray} {ks : List Int} (hi0 : i < ns.length) (h1 : w.ownsRow lo 174 3 (.slice (some ⟨g, 0, none⟩) ns.length cap) ns.length xs) (h0 : g < hi) (h2 : ∀ i (h : i < ns.length), xs[i * 3]? = some (.int .i64 ns[i].k) ∧ xs[i * 3 + 1]? = some (.string ns[i].s) ∧ ∃ kv, xs[i * 3 + 2]? = some kv ∧ KidRow lo w kv ns[i].kids ∧ ∀ b, kv.ownBlock = some b → b < hi) (h3 : Apart xs ns.length)
    (hkv : xs[i * 3 + 2]? = some kv) (ho : w1.ownsRow lo 174 3 (.slice (some ⟨g, 0, none⟩) ns.length cap) ns.length ((xs.set (i * 3) (.int .i64 k)).set (i * 3 + 1) (.string s))) (hb1 : ∀ b, b < w.heap.size → b ≠ g → w1.heap[b]? = w.heap[b]?) (hg : w1.grownBy w2 kv.ownBlock) (hk : KidRow lo w2 kv ks) : NdR lo hi w2 (.slice (some ⟨g, 0, none⟩) ns.length cap) (ns.set i ⟨k, s, ks⟩) := by
  have hxl := h1.1
  have hne : ∀ j kv' b, j < ns.length → xs[j * 3 + 2]? = some kv' → kv'.ownBlock = some b → b ≠ g := by
    intro j kv' b hj hx hb
    obtain ⟨_, _, kv2, c, d, _⟩ := h2 j hj
    rw [c] at hx
    obtain rfl := Option.some.inj hx
    rcases d.2 with ⟨hn, _⟩ | ⟨g2, cap2, cur2, hn, _⟩
    · rw [hn] at hb; simp [Value.ownBlock] at hb
    · have hd : w.ownsRow lo 3 1 (.slice (some ⟨g2, 0, none⟩) ns[j].kids.length cap2) ns[j].kids.length (ns[j].kids.map (Value.int .i64)) := by rw [← hn]; exact d
      rw [hn] at hb
      simp [Value.ownBlock] at hb
      subst hb
      exact rows_ne hd h1 (by decide)
  have hgk : kv.ownBlock ≠ some g := fun e => hne i kv g hi0 hkv e rfl
  refine ⟨(xs.set (i * 3) (.int .i64 k)).set (i * 3 + 1) (.string s), ?_, fun b hb => by simp [Value.ownBlock] at hb; omega, fun j hj => ?_, ?_⟩
  · rw [List.length_set]
    exact World.ownsRow.kept ho hg (by
      rcases hob : kv.ownBlock with _ | b
      · exact .inr (by simp [Value.ownBlock])
      · exact .inr (by simp [Value.ownBlock]; intro e; exact hgk (by rw [hob, e])))
  · have hj' : j < ns.length := by simpa using hj
    by_cases e : j = i
    · subst e
      rw [List.getElem_set_self]
      refine ⟨?_, ?_, kv, ?_, hk, ?_⟩
      · rw [List.getElem?_set_ne (by omega), List.getElem?_set_self (by omega)]
      · rw [List.getElem?_set_self (by rw [List.length_set]; omega)]
      · rw [List.getElem?_set_ne (by omega), List.getElem?_set_ne (by omega)]; exact hkv
      · obtain ⟨_, _, kv2, c, d, f⟩ := h2 j hi0
        rw [c] at hkv
        obtain rfl := Option.some.inj hkv
        exact f
    · obtain ⟨a, b, kv2, c, d, f⟩ := h2 j hj'
      rw [List.getElem_set_ne (by omega)]
      refine ⟨?_, ?_, kv2, ?_, ?_, f⟩
      · rw [List.getElem?_set_ne (by omega), List.getElem?_set_ne (by omega)]; exact a
      · rw [List.getElem?_set_ne (by omega), List.getElem?_set_ne (by omega)]; exact b
      · rw [List.getElem?_set_ne (by omega), List.getElem?_set_ne (by omega)]; exact c
      · have d1 : KidRow lo w1 kv2 ns[j].kids := row_same d (fun q hq => hb1 q (World.ownsRow.lt d q hq).2 (hne j kv2 q hj' c hq))
        refine World.ownsRow.kept d1 hg ?_
        rcases hob : kv2.ownBlock with _ | b
        · exact .inl rfl
        · refine .inr (fun e2 => ?_)
          exact h3 j i hj' hi0 e kv2 kv b c hkv hob e2.symm
  · rw [List.length_set]
    intro p q hp hq hpq kv1 kv2 b c1 c2 e1 e2
    rw [List.getElem?_set_ne (by omega), List.getElem?_set_ne (by omega)] at c1 c2
    exact h3 p q hp hq hpq kv1 kv2 b c1 c2 e1 e2
end Go.Proofs.YtjkkojefpecbfaaGreat

/- What markLNodeS answers: a level's nodes are marked, within their own blocks. -/
namespace Go.Proofs.YtjkkojefpecbfaaGreat
open Go.ChangeShapes Go.WideShapes Go.ChangeAt Go.RowKit

set_option maxRecDepth 20000 in
set_option maxHeartbeats 4000000 in
theorem markLNodeS_any (lo hi : Nat) (v : Value) (ns : List Nd) (k0 : Nat) (w : World) (h : NdR lo hi w v ns) (hlo : lo ≤ w.heap.size) (hkl : ∀ nd ∈ ns, nd.kids.length ≤ 1048576) (hk1 : 1 ≤ k0) (hk : k0 + costN ns ≤ 50000000) (hn : ns.length ≤ 1048576) :
    Calls Tryz.prog 76 #[v, .int .i64 k0] w fun e w' => e = .returned (.int .i64 ((k0 + costN ns : Nat) : Int)) ∧ NdR lo hi w' v (markN k0 ns) ∧ Chg lo hi w w' := by
  obtain ⟨a, cap, hv⟩ := h.form
  subst hv
  have H0 : Hid (NdR lo hi w (.slice a ns.length cap) (partN k0 ns 0)) := by show NdR _ _ _ _ _; simp only [partN, List.take_zero, markN, List.drop_zero, List.nil_append]; exact h
  have HKL := hide hkl
  clear h hkl
  go_enter Tryz.func76, Tryz.ntmps76
  go_wp2_with fail
  go_loopw [1, 5] (fun m i wr => ∃ (j K : Nat), j ≤ ns.length ∧ i = .int .i64 j ∧ m = .int .i64 K ∧ Hid (K = k0 + costN (ns.take j)) ∧ Hid (NdR lo hi wr (.slice a ns.length cap) (partN k0 ns j)) ∧ Hid (Chg lo hi w wr)) (fun _ i _ => ns.length - (intOf i).toNat)
  case atStart => exact ⟨0, k0, by omega, rfl, rfl, by show _ = _; simp [costN], H0, Chg.refl _ _ _⟩
  case round =>
    obtain ⟨j, K, hj, rfl, rfl, HK, HN, HC⟩ := hrel
    clear H0
    have hK1 : 1 ≤ K := by have := HK.out; omega
    have hK2 : K ≤ 50000000 := by have := HK.out; have := costN_le ns j; omega
    by_cases hlt : j < ns.length
    · have hlt' : (j : Int) < ns.length := by omega
      obtain ⟨xs, h1, h0, h2, h3⟩ := HN.out
      have hLl := partN_len k0 ns j
      have hjL : j < (partN k0 ns j).length := by omega
      obtain ⟨g, rfl⟩ : ∃ g, a = some ⟨g, 0, none⟩ := by
        rcases h1.2 with ⟨_, e⟩ | ⟨g, c2, _, e, _⟩
        · omega
        · injection e with e1 e2 e3; exact ⟨g, e1⟩
      have hget : (partN k0 ns j)[j] = ns[j] := by
        have := partN_get k0 ns j hlt
        rw [List.getElem?_eq_getElem hjL] at this
        exact Option.some.inj this
      obtain ⟨c1, c2, kv, c3, hkv, hkb⟩ := h2 j hjL
      rw [hget] at c1 c2 hkv
      have h1' : wr.ownsRow lo 174 3 (.slice (some ⟨g, 0, none⟩) ns.length cap) ns.length xs := by rw [← hLl] at h1 ⊢; exact h1
      have hxl := h1'.1
      have e1 := h1'.cellAt (j * 3) (by omega)
      have e2 := h1'.cellAt (j * 3 + 1) (by omega)
      have e3 := h1'.cellAt (j * 3 + 2) (by omega)
      rw [c1] at e1
      rw [c2] at e2
      rw [c3] at e3
      have f1 := h1'.frozenAt (j * 3)
      have f2 := h1'.frozenAt (j * 3 + 1)
      have hgb := h1'.lt g rfl
      have hghi := h0 g rfl
      obtain ⟨ka, kc, hkf⟩ := row_form hkv
      obtain ⟨W1, hW1⟩ : ∃ W1, W1 = wr.setCell ⟨g, j * 3, none⟩ (.int .i64 K) := ⟨_, rfl⟩
      have s1 : W1.ownsRow lo 174 3 (.slice (some ⟨g, 0, none⟩) ns.length cap) ns.length (xs.set (j * 3) (.int .i64 K)) := by rw [hW1]; exact (h1'.stored (j * 3) (.int .i64 K)).1
      have hC1 : Chg lo hi wr W1 := by rw [hW1]; exact Chg.set wr hgb.1 hghi _
      have hs1 : W1.heap.size = wr.heap.size := by rw [hW1, size_set]
      have hb1 : ∀ b, b < wr.heap.size → b ≠ g → W1.heap[b]? = wr.heap[b]? := fun b _ hb => by rw [hW1]; exact Below.heap_setCell wr _ _ b hb
      have y2 : W1.cell? ⟨g, j * 3 + 1, none⟩ = some (.string ns[j].s) := by rw [s1.cellAt _ (by omega), List.getElem?_set_ne (by omega)]; exact c2
      have y2f := s1.frozenAt (j * 3 + 1)
      have HMT := hide (markText_any (K + 1) W1 (by omega) (by omega))
      have HS1 := hide s1
      have HC1 := hide hC1
      have HB1 := hide hb1
      have HH1 := hide h1
      have HHP := hide h1'
      have HH2 := hide h2
      have HH3 := hide h3
      have HKV := hide hkv
      have HKB := hide hkb
      have HC3 := hide c3
      have hkl := HKL.out ns[j] (List.getElem_mem hlt)
      have HLL := hide hLl
      have hsz := HC.out.1.size
      clear s1 hC1 hb1 h1 h2 h3 hkv hkb c1 c2 c3 hLl hget hjL h1' e3
      generalize ns[j].k = nk at *
      generalize ns[j].s = nss at *
      go_wp2_with fail
      rw [← hW1]
      clear hW1 e1 e2 f1 f2
      have hKc : (K : Int) + 1 = ((K + 1 : Nat) : Int) := by omega
      rw [hKc]
      clear hKc
      refine HMT.out.mono ?_
      rintro e w2 ⟨rfl, hb2⟩
      have hs2 := hb2.size
      have s2 := row_keep hb2 HS1.out
      have y2 := keep_cell hb2 y2
      have y2f := s2.frozenAt (j * 3 + 1)
      have y3 : w2.cell? ⟨g, j * 3 + 2, none⟩ = some kv := by rw [s2.cellAt _ (by omega), List.getElem?_set_ne (by omega)]; exact HC3.out
      obtain ⟨W3, hW3⟩ : ∃ W3, W3 = w2.setCell ⟨g, j * 3 + 1, none⟩ (.string (mt (K + 1))) := ⟨_, rfl⟩
      have s3 : W3.ownsRow lo 174 3 (.slice (some ⟨g, 0, none⟩) ns.length cap) ns.length ((xs.set (j * 3) (.int .i64 K)).set (j * 3 + 1) (.string (mt (K + 1)))) := by rw [hW3]; exact (s2.stored (j * 3 + 1) _).1
      have hC3 : Chg lo hi w2 W3 := by rw [hW3]; exact Chg.set w2 hgb.1 hghi _
      have hs3 : W3.heap.size = w2.heap.size := by rw [hW3, size_set]
      have hb3 : ∀ b, b < wr.heap.size → b ≠ g → W3.heap[b]? = wr.heap[b]? := fun b hb hbg => by
        rw [hW3, Below.heap_setCell w2 _ _ b hbg, hb2.block b (by omega)]; exact HB1.out b hb hbg
      have hkv3 : KidRow lo W3 kv ns[j].kids := row_same HKV.out (fun q hq => hb3 q (World.ownsRow.lt HKV.out q hq).2 (fun e => by
        rcases HKV.out.2 with ⟨hn, _⟩ | ⟨g2, cap2, cur2, hn, _⟩
        · rw [hn] at hq; simp [Value.ownBlock] at hq
        · have hd : wr.ownsRow lo 3 1 (.slice (some ⟨g2, 0, none⟩) ns[j].kids.length cap2) ns[j].kids.length (ns[j].kids.map (Value.int .i64)) := by rw [← hn]; exact HKV.out
          rw [hn] at hq
          simp [Value.ownBlock] at hq
          subst hq
          exact rows_ne hd HHP.out (by decide) e))
      have HMI := hide (markIntS_any lo kv ns[j].kids (K + 2) W3 hkv3 hkl (by omega))
      have HS3 := hide s3
      have HB3 := hide hb3
      have HCC := hide (((HC.out.trans HC1.out).trans (Chg.of (hi := hi) hb2 (by omega))).trans hC3)
      clear s2 s3 hC3 hb3 hkv3 hb2 HS1 HC1 HB1 HMT hs1 hs3
      subst hkf
      go_wp2_with fail
      rw [← hW3]
      clear hW3 y2 y2f y3
      have hKc : (K : Int) + 1 + 1 = ((K + 2 : Nat) : Int) := by omega
      rw [hKc]
      clear hKc
      refine HMI.out.mono ?_
      rintro e w4 ⟨rfl, hk4, hg4⟩
      have HN4 : Hid (NdR lo hi w4 (.slice (some ⟨g, 0, none⟩) ns.length cap) (partN k0 ns (j + 1))) := by
        show NdR _ _ _ _ _
        have hll := HLL.out
        have hKe := HK.out
        have hput := NdR.put (ns := partN k0 ns j) (i := j) (k := (K : Int)) (s := mt (K + 1)) (ks := nums (K + 2) ns[j].kids.length) (by omega) (by rw [hll]; exact HHP.out) hghi HH2.out HH3.out HC3.out (by rw [hll]; exact HS3.out) HB3.out hg4 hk4
        rw [hKe, partN_set k0 ns j hlt, hll] at hput
        exact hput
      have HC4 := hide (HCC.out.trans (Chg.grown hg4 (fun b hb => ⟨(World.ownsRow.lt hk4 b hb).1, HKB.out b hb⟩) (by have := HCC.out.1.size; omega)))
      have HK4 : Hid (K + 2 + ns[j].kids.length = k0 + costN (ns.take (j + 1))) := by show _ = _; rw [costN_snoc ns j hlt]; have := HK.out; omega
      clear hk4 hg4
      generalize ns[j].kids.length = kl at *
      go_wp2_with fail
      go_roundw
      case rel => exact ⟨j + 1, K + 2 + kl, by omega, by go_num, by go_num, HK4, HN4, HC4⟩
      case measure => simp [intOf]; omega
    · have hjn : j = ns.length := by omega
      subst hjn
      have HR : Hid (K = k0 + costN ns) := by show _ = _; have := HK.out; rwa [List.take_length] at this
      have HN2 : Hid (NdR lo hi wr (.slice a ns.length cap) (markN k0 ns)) := by
        have := HN.out
        unfold partN at this
        rw [List.take_length, List.drop_length, List.append_nil] at this
        exact this
      go_wp2_with fail
      go_ret
      exact ⟨ret_int (by rw [HR.out]), HN2.out, HC.out⟩
end Go.Proofs.YtjkkojefpecbfaaGreat

/- What the comparing of two levels (eqLevel and what it calls) answers at two levels with the same nodes: true; nothing that was there is written. -/
namespace Go.Proofs.YtjkkojefpecbfaaGreat
open Go.ChangeShapes Go.WideShapes Go.ChangeAt Go.RowKit

set_option maxHeartbeats 1000000 in
theorem eqIntS_any (v1 v2 : Value) (ks : List Int) (w : World) (h1 : IntsAt w v1 ks) (h2 : IntsAt w v2 ks) :
    Calls Tryz.prog 152 #[v1, v2] w fun e w' => e = .returned (.bool true) ∧ ∃ n, w' = w.drewN n := by
  obtain ⟨a1, cap1, rfl, hl1, hm1, hc1⟩ := h1
  obtain ⟨a2, cap2, rfl, hl2, hm2, hc2⟩ := h2
  unfold maxLen at hm1 hm2
  have H1 : Hid (0 < ks.length → ∃ b off, a1 = some ⟨b, off, none⟩ ∧ ∀ j (h : j < ks.length), w.cell? ⟨b, off + j, none⟩ = some (.int .i64 ks[j])) := hc1
  have H2 : Hid (0 < ks.length → ∃ b off, a2 = some ⟨b, off, none⟩ ∧ ∀ j (h : j < ks.length), w.cell? ⟨b, off + j, none⟩ = some (.int .i64 ks[j])) := hc2
  clear hc1 hc2
  go_enter Tryz.func152, Tryz.ntmps152
  go_wp2_with fail
  go_loopw [5] (fun i wr => ∃ (k : Nat) (n : Nat), k ≤ ks.length ∧ i = .int .i64 k ∧ wr = w.drewN n) (fun i _ => ks.length - (intOf i).toNat)
  case atStart => exact ⟨0, 0, by omega, rfl, rfl⟩
  case round =>
    obtain ⟨k, n, hk, rfl, rfl⟩ := hrel
    by_cases hlt : k < ks.length
    · obtain ⟨b1, o1, rfl, c1⟩ := H1.out (by omega)
      obtain ⟨b2, o2, rfl, c2⟩ := H2.out (by omega)
      have d1 := c1 k hlt
      have d2 := c2 k hlt
      have hlt' : (k : Int) < ks.length := by omega
      clear c1 c2 H1 H2
      generalize ks[k] = q at *
      go_wp2_with fail
      go_region
      go_wp2_with fail
      go_roundw
      case rel => exact ⟨k + 1, _, by omega, by go_num, rfl⟩
      case measure => simp [intOf]; omega
    · go_wp2_with fail
      go_ret
      exact ⟨rfl, n, rfl⟩

set_option maxHeartbeats 1000000 in
theorem eqLNode_any (nd : Nd) (k1 k2 : Value) (w : World) (h1 : IntsAt w k1 nd.kids) (h2 : IntsAt w k2 nd.kids) :
    Calls Tryz.prog 172 #[.agg #[.int .i64 nd.k, .string nd.s, k1], .agg #[.int .i64 nd.k, .string nd.s, k2]] w fun e w' => e = .returned (.bool true) ∧ Below w.heap.size w w' := by
  have H1 : Hid (∀ o1 o2, IntsAt ((w.alloc o1).alloc o2) k1 nd.kids) := fun o1 o2 => h1.keep (((Below.refl w.heap.size w).alloc (Nat.le_refl _) o1).alloc (by simp) o2)
  have H2 : Hid (∀ o1 o2, IntsAt ((w.alloc o1).alloc o2) k2 nd.kids) := fun o1 o2 => h2.keep (((Below.refl w.heap.size w).alloc (Nat.le_refl _) o1).alloc (by simp) o2)
  obtain ⟨a1, cap1, rfl, _, _, _⟩ := h1
  obtain ⟨a2, cap2, rfl, _, _, _⟩ := h2
  go_enter Tryz.func172, Tryz.ntmps172
  go_wp2_with (go_at_call 152; refine (eqIntS_any _ _ nd.kids _ (H1.out _ _) (H2.out _ _)).mono ?_; rintro e w1 ⟨rfl, n, rfl⟩)
  go_ret
  exact ⟨rfl, below_drewN (((Below.refl w.heap.size w).alloc (Nat.le_refl _) _).alloc (by simp) _) n⟩

set_option maxHeartbeats 1000000 in
theorem eqLNodeS_any (v1 v2 : Value) (ns : List Nd) (w : World) (h1 : NodesAt w v1 ns) (h2 : NodesAt w v2 ns) :
    Calls Tryz.prog 125 #[v1, v2] w fun e w' => e = .returned (.bool true) ∧ Below w.heap.size w w' := by
  obtain ⟨a1, cap1, rfl, hl1, hm1, hc1⟩ := h1
  obtain ⟨a2, cap2, rfl, hl2, hm2, hc2⟩ := h2
  unfold maxLen at hm1 hm2
  have H1 : Hid (0 < ns.length → ∃ b off, a1 = some ⟨b, off, none⟩ ∧ ∀ i (h : i < ns.length), NodeAt w b (off + i * 3) ns[i]) := hc1
  have H2 : Hid (0 < ns.length → ∃ b off, a2 = some ⟨b, off, none⟩ ∧ ∀ i (h : i < ns.length), NodeAt w b (off + i * 3) ns[i]) := hc2
  clear hc1 hc2
  go_enter Tryz.func125, Tryz.ntmps125
  go_wp2_with fail
  go_loopw [5] (fun i wr => ∃ (k : Nat), k ≤ ns.length ∧ i = .int .i64 k ∧ Below w.heap.size w wr) (fun i _ => ns.length - (intOf i).toNat)
  case atStart => exact ⟨0, by omega, rfl, Below.refl _ _⟩
  case round =>
    obtain ⟨k, hk, rfl, hbel⟩ := hrel
    by_cases hlt : k < ns.length
    · obtain ⟨b1, o1, rfl, c1⟩ := H1.out (by omega)
      obtain ⟨b2, o2, rfl, c2⟩ := H2.out (by omega)
      obtain ⟨p1, p2, kv1, p3, p4⟩ := (c1 k hlt).keep (w' := w) (Below.refl _ _)
      obtain ⟨q1, q2, kv2, q3, q4⟩ := (c2 k hlt).keep (w' := w) (Below.refl _ _)
      have p1' := keep_cell hbel p1
      have p2' := keep_cell hbel p2
      have p3' := keep_cell hbel p3
      have p4' := p4.keep hbel
      have q1' := keep_cell hbel q1
      have q2' := keep_cell hbel q2
      have q3' := keep_cell hbel q3
      have q4' := q4.keep hbel
      have hlt' : (k : Int) < ns.length := by omega
      clear c1 c2 H1 H2 p1 p2 p3 p4 q1 q2 q3 q4
      generalize ns[k] = nd at *
      go_wp2_with fail
      go_region_with (go_at_call 172; refine (eqLNode_any nd kv1 kv2 _ ?_ ?_).mono ?_; exact p4'.keep (below_drewN (Below.refl _ _) _); exact q4'.keep (below_drewN (Below.refl _ _) _); rintro e w1 ⟨rfl, hb⟩)
      all_goals
        go_wp2_with fail
        go_roundw
        case rel => exact ⟨k + 1, by omega, by go_num, hbel.drew.trans (hb.mono hbel.size)⟩
        case measure => simp [intOf]; omega
    · go_wp2_with fail
      go_ret
      exact ⟨rfl, hbel⟩

set_option maxHeartbeats 1000000 in
theorem eqLevel_any (v1 v2 : Value) (ns : List Nd) (w : World) (h1 : NodesAt w v1 ns) (h2 : NodesAt w v2 ns) :
    Calls Tryz.prog 74 #[.agg #[v1], .agg #[v2]] w fun e w' => e = .returned (.bool true) ∧ Below w.heap.size w w' := by
  have H1 : Hid (∀ o1 o2, NodesAt ((w.alloc o1).alloc o2) v1 ns) := fun o1 o2 => h1.keep (((Below.refl w.heap.size w).alloc (Nat.le_refl _) o1).alloc (by simp) o2)
  have H2 : Hid (∀ o1 o2, NodesAt ((w.alloc o1).alloc o2) v2 ns) := fun o1 o2 => h2.keep (((Below.refl w.heap.size w).alloc (Nat.le_refl _) o1).alloc (by simp) o2)
  obtain ⟨a1, cap1, rfl, _, _, _⟩ := h1
  obtain ⟨a2, cap2, rfl, _, _, _⟩ := h2
  go_enter Tryz.func74, Tryz.ntmps74
  go_wp2_with (go_at_call 125; refine (eqLNodeS_any _ _ ns _ (H1.out _ _) (H2.out _ _)).mono ?_; rintro e w1 ⟨rfl, hb⟩)
  go_ret
  exact ⟨rfl, (((Below.refl w.heap.size w).alloc (Nat.le_refl _) _).alloc (by simp) _).trans (hb.mono (by simp; omega))⟩
end Go.Proofs.YtjkkojefpecbfaaGreat
