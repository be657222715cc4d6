/- What markLNodeS answers: a level's nodes are marked, within their own blocks. -/
import Derived.Test.YtpmpooekpeocdaaGreatMkC
import Derived.Test.YtpmpooekpeocdaaGreatTQ
import Derived.Test.YtpmpooekpeocdaaGreatStrs
import Derived.Deep.RegionWith
import Derived.Test.YtpmpooekpeocdaaGreatNames
namespace Go.Proofs.YtpmpooekpeocdaaGreat
open Go.ChangeShapes Go.WideShapes Go.ChangeAt Go.RowKit

set_option maxRecDepth 20000 in
set_option maxHeartbeats 4000000 in
theorem markLNodeS_any (lo hi : Nat) (v : Value) (ns : List Nd) (k0 : Nat) (w : World) (h : NdR lo hi w v ns) (hlo : lo ≤ w.heap.size) (hkl : ∀ nd ∈ ns, nd.kids.length ≤ 1048576) (hk1 : 1 ≤ k0) (hk : k0 + costN ns ≤ 50000000) (hn : ns.length ≤ 1048576) :
    Calls Tryz.prog 134 #[v, .int .i64 k0] w fun e w' => e = .returned (.int .i64 ((k0 + costN ns : Nat) : Int)) ∧ NdR lo hi w' v (markN k0 ns) ∧ Chg lo hi w w' := by
  obtain ⟨a, cap, hv⟩ := h.form
  subst hv
  have H0 : Hid (NdR lo hi w (.slice a ns.length cap) (partN k0 ns 0)) := by show NdR _ _ _ _ _; simp only [partN, List.take_zero, markN, List.drop_zero, List.nil_append]; exact h
  have HKL := hide hkl
  clear h hkl
  go_enter Tryz.func134, Tryz.ntmps134
  go_wp2_with fail
  go_loopw [1, 5] (fun m i wr => ∃ (j K : Nat), j ≤ ns.length ∧ i = .int .i64 j ∧ m = .int .i64 K ∧ Hid (K = k0 + costN (ns.take j)) ∧ Hid (NdR lo hi wr (.slice a ns.length cap) (partN k0 ns j)) ∧ Hid (Chg lo hi w wr)) (fun _ i _ => ns.length - (intOf i).toNat)
  case atStart => exact ⟨0, k0, by omega, rfl, rfl, by show _ = _; simp [costN], H0, Chg.refl _ _ _⟩
  case round =>
    obtain ⟨j, K, hj, rfl, rfl, HK, HN, HC⟩ := hrel
    clear H0
    have hK1 : 1 ≤ K := by have := HK.out; omega
    have hK2 : K ≤ 50000000 := by have := HK.out; have := costN_le ns j; omega
    by_cases hlt : j < ns.length
    · have hlt' : (j : Int) < ns.length := by omega
      obtain ⟨xs, h1, h0, h2, h3⟩ := HN.out
      have hLl := partN_len k0 ns j
      have hjL : j < (partN k0 ns j).length := by omega
      obtain ⟨g, rfl⟩ : ∃ g, a = some ⟨g, 0, none⟩ := by
        rcases h1.2 with ⟨_, e⟩ | ⟨g, c2, _, e, _⟩
        · omega
        · injection e with e1 e2 e3; exact ⟨g, e1⟩
      have hget : (partN k0 ns j)[j] = ns[j] := by
        have := partN_get k0 ns j hlt
        rw [List.getElem?_eq_getElem hjL] at this
        exact Option.some.inj this
      obtain ⟨c1, c2, kv, c3, hkv, hkb⟩ := h2 j hjL
      rw [hget] at c1 c2 hkv
      have h1' : wr.ownsRow lo 243 3 (.slice (some ⟨g, 0, none⟩) ns.length cap) ns.length xs := by rw [← hLl] at h1 ⊢; exact h1
      have hxl := h1'.1
      have e1 := h1'.cellAt (j * 3) (by omega)
      have e2 := h1'.cellAt (j * 3 + 1) (by omega)
      have e3 := h1'.cellAt (j * 3 + 2) (by omega)
      rw [c1] at e1
      rw [c2] at e2
      rw [c3] at e3
      have f1 := h1'.frozenAt (j * 3)
      have f2 := h1'.frozenAt (j * 3 + 1)
      have hgb := h1'.lt g rfl
      have hghi := h0 g rfl
      obtain ⟨ka, kc, hkf⟩ := row_form hkv
      obtain ⟨W1, hW1⟩ : ∃ W1, W1 = wr.setCell ⟨g, j * 3, none⟩ (.int .i64 K) := ⟨_, rfl⟩
      have s1 : W1.ownsRow lo 243 3 (.slice (some ⟨g, 0, none⟩) ns.length cap) ns.length (xs.set (j * 3) (.int .i64 K)) := by rw [hW1]; exact (h1'.stored (j * 3) (.int .i64 K)).1
      have hC1 : Chg lo hi wr W1 := by rw [hW1]; exact Chg.set wr hgb.1 hghi _
      have hs1 : W1.heap.size = wr.heap.size := by rw [hW1, size_set]
      have hb1 : ∀ b, b < wr.heap.size → b ≠ g → W1.heap[b]? = wr.heap[b]? := fun b _ hb => by rw [hW1]; exact Below.heap_setCell wr _ _ b hb
      have y2 : W1.cell? ⟨g, j * 3 + 1, none⟩ = some (.string ns[j].s) := by rw [s1.cellAt _ (by omega), List.getElem?_set_ne (by omega)]; exact c2
      have y2f := s1.frozenAt (j * 3 + 1)
      have HMT := hide (markText_any (K + 1) W1 (by omega) (by omega))
      have HS1 := hide s1
      have HC1 := hide hC1
      have HB1 := hide hb1
      have HH1 := hide h1
      have HHP := hide h1'
      have HH2 := hide h2
      have HH3 := hide h3
      have HKV := hide hkv
      have HKB := hide hkb
      have HC3 := hide c3
      have hkl := HKL.out ns[j] (List.getElem_mem hlt)
      have HLL := hide hLl
      have hsz := HC.out.1.size
      clear s1 hC1 hb1 h1 h2 h3 hkv hkb c1 c2 c3 hLl hget hjL h1' e3
      generalize ns[j].k = nk at *
      generalize ns[j].s = nss at *
      go_wp2_with fail
      rw [← hW1]
      clear hW1 e1 e2 f1 f2
      have hKc : (K : Int) + 1 = ((K + 1 : Nat) : Int) := by omega
      rw [hKc]
      clear hKc
      refine HMT.out.mono ?_
      rintro e w2 ⟨rfl, hb2⟩
      have hs2 := hb2.size
      have s2 := row_keep hb2 HS1.out
      have y2 := keep_cell hb2 y2
      have y2f := s2.frozenAt (j * 3 + 1)
      have y3 : w2.cell? ⟨g, j * 3 + 2, none⟩ = some kv := by rw [s2.cellAt _ (by omega), List.getElem?_set_ne (by omega)]; exact HC3.out
      obtain ⟨W3, hW3⟩ : ∃ W3, W3 = w2.setCell ⟨g, j * 3 + 1, none⟩ (.string (mt (K + 1))) := ⟨_, rfl⟩
      have s3 : W3.ownsRow lo 243 3 (.slice (some ⟨g, 0, none⟩) ns.length cap) ns.length ((xs.set (j * 3) (.int .i64 K)).set (j * 3 + 1) (.string (mt (K + 1)))) := by rw [hW3]; exact (s2.stored (j * 3 + 1) _).1
      have hC3 : Chg lo hi w2 W3 := by rw [hW3]; exact Chg.set w2 hgb.1 hghi _
      have hs3 : W3.heap.size = w2.heap.size := by rw [hW3, size_set]
      have hb3 : ∀ b, b < wr.heap.size → b ≠ g → W3.heap[b]? = wr.heap[b]? := fun b hb hbg => by
        rw [hW3, Below.heap_setCell w2 _ _ b hbg, hb2.block b (by omega)]; exact HB1.out b hb hbg
      have hkv3 : KidRow lo W3 kv ns[j].kids := row_same HKV.out (fun q hq => hb3 q (World.ownsRow.lt HKV.out q hq).2 (fun e => by
        rcases HKV.out.2 with ⟨hn, _⟩ | ⟨g2, cap2, cur2, hn, _⟩
        · rw [hn] at hq; simp [Value.ownBlock] at hq
        · have hd : wr.ownsRow lo 3 1 (.slice (some ⟨g2, 0, none⟩) ns[j].kids.length cap2) ns[j].kids.length (ns[j].kids.map (Value.int .i64)) := by rw [← hn]; exact HKV.out
          rw [hn] at hq
          simp [Value.ownBlock] at hq
          subst hq
          exact rows_ne hd HHP.out (by decide) e))
      have HMI := hide (markIntS_any lo kv ns[j].kids (K + 2) W3 hkv3 hkl (by omega))
      have HS3 := hide s3
      have HB3 := hide hb3
      have HCC := hide (((HC.out.trans HC1.out).trans (Chg.of (hi := hi) hb2 (by omega))).trans hC3)
      clear s2 s3 hC3 hb3 hkv3 hb2 HS1 HC1 HB1 HMT hs1 hs3
      subst hkf
      go_wp2_with fail
      rw [← hW3]
      clear hW3 y2 y2f y3
      have hKc : (K : Int) + 1 + 1 = ((K + 2 : Nat) : Int) := by omega
      rw [hKc]
      clear hKc
      refine HMI.out.mono ?_
      rintro e w4 ⟨rfl, hk4, hg4⟩
      have HN4 : Hid (NdR lo hi w4 (.slice (some ⟨g, 0, none⟩) ns.length cap) (partN k0 ns (j + 1))) := by
        show NdR _ _ _ _ _
        have hll := HLL.out
        have hKe := HK.out
        have hput := NdR.put (ns := partN k0 ns j) (i := j) (k := (K : Int)) (s := mt (K + 1)) (ks := nums (K + 2) ns[j].kids.length) (by omega) (by rw [hll]; exact HHP.out) hghi HH2.out HH3.out HC3.out (by rw [hll]; exact HS3.out) HB3.out hg4 hk4
        rw [hKe, partN_set k0 ns j hlt, hll] at hput
        exact hput
      have HC4 := hide (HCC.out.trans (Chg.grown hg4 (fun b hb => ⟨(World.ownsRow.lt hk4 b hb).1, HKB.out b hb⟩) (by have := HCC.out.1.size; omega)))
      have HK4 : Hid (K + 2 + ns[j].kids.length = k0 + costN (ns.take (j + 1))) := by show _ = _; rw [costN_snoc ns j hlt]; have := HK.out; omega
      clear hk4 hg4
      generalize ns[j].kids.length = kl at *
      go_wp2_with fail
      go_roundw
      case rel => exact ⟨j + 1, K + 2 + kl, by omega, by go_num, by go_num, HK4, HN4, HC4⟩
      case measure => simp [intOf]; omega
    · have hjn : j = ns.length := by omega
      subst hjn
      have HR : Hid (K = k0 + costN ns) := by show _ = _; have := HK.out; rwa [List.take_length] at this
      have HN2 : Hid (NdR lo hi wr (.slice a ns.length cap) (markN k0 ns)) := by
        have := HN.out
        unfold partN at this
        rw [List.take_length, List.drop_length, List.append_nil] at this
        exact this
      go_wp2_with fail
      go_ret
      exact ⟨ret_int (by rw [HR.out]), HN2.out, HC.out⟩
end Go.Proofs.YtpmpooekpeocdaaGreat

/- What the copying of a term (toTerm and what it calls) answers: a new term with the same nodes; nothing that was there is written. -/
namespace Go.Proofs.YtpmpooekpeocdaaGreat
open Go.ChangeShapes Go.WideShapes Go.ChangeAt Go.RowKit

theorem Tryz.info200 : (Tryz.prog.info? 200).map (fun i => (i.zero, i.size, i.bytes)) = some (some (.agg #[.slice none 0 0]), 1, 24) := by kernel_rfl
end Go.Proofs.YtpmpooekpeocdaaGreat

/- What the comparing of two levels (eqLevel and what it calls) answers at two levels with the same nodes: true; nothing that was there is written. -/
namespace Go.Proofs.YtpmpooekpeocdaaGreat
open Go.ChangeShapes Go.WideShapes Go.ChangeAt Go.RowKit

set_option maxHeartbeats 1000000 in
theorem eqIntS_any (v1 v2 : Value) (ks : List Int) (w : World) (h1 : IntsAt w v1 ks) (h2 : IntsAt w v2 ks) :
    Calls Tryz.prog 159 #[v1, v2] w fun e w' => e = .returned (.bool true) ∧ ∃ n, w' = w.drewN n := by
  obtain ⟨a1, cap1, rfl, hl1, hm1, hc1⟩ := h1
  obtain ⟨a2, cap2, rfl, hl2, hm2, hc2⟩ := h2
  unfold maxLen at hm1 hm2
  have H1 : Hid (0 < ks.length → ∃ b off, a1 = some ⟨b, off, none⟩ ∧ ∀ j (h : j < ks.length), w.cell? ⟨b, off + j, none⟩ = some (.int .i64 ks[j])) := hc1
  have H2 : Hid (0 < ks.length → ∃ b off, a2 = some ⟨b, off, none⟩ ∧ ∀ j (h : j < ks.length), w.cell? ⟨b, off + j, none⟩ = some (.int .i64 ks[j])) := hc2
  clear hc1 hc2
  go_enter Tryz.func159, Tryz.ntmps159
  go_wp2_with fail
  go_loopw [5] (fun i wr => ∃ (k : Nat) (n : Nat), k ≤ ks.length ∧ i = .int .i64 k ∧ wr = w.drewN n) (fun i _ => ks.length - (intOf i).toNat)
  case atStart => exact ⟨0, 0, by omega, rfl, rfl⟩
  case round =>
    obtain ⟨k, n, hk, rfl, rfl⟩ := hrel
    by_cases hlt : k < ks.length
    · obtain ⟨b1, o1, rfl, c1⟩ := H1.out (by omega)
      obtain ⟨b2, o2, rfl, c2⟩ := H2.out (by omega)
      have d1 := c1 k hlt
      have d2 := c2 k hlt
      have hlt' : (k : Int) < ks.length := by omega
      clear c1 c2 H1 H2
      generalize ks[k] = q at *
      go_wp2_with fail
      go_region
      go_wp2_with fail
      go_roundw
      case rel => exact ⟨k + 1, _, by omega, by go_num, rfl⟩
      case measure => simp [intOf]; omega
    · go_wp2_with fail
      go_ret
      exact ⟨rfl, n, rfl⟩

set_option maxHeartbeats 1000000 in
theorem eqLNode_any (nd : Nd) (k1 k2 : Value) (w : World) (h1 : IntsAt w k1 nd.kids) (h2 : IntsAt w k2 nd.kids) :
    Calls Tryz.prog 263 #[.agg #[.int .i64 nd.k, .string nd.s, k1], .agg #[.int .i64 nd.k, .string nd.s, k2]] w fun e w' => e = .returned (.bool true) ∧ Below w.heap.size w w' := by
  have H1 : Hid (∀ o1 o2, IntsAt ((w.alloc o1).alloc o2) k1 nd.kids) := fun o1 o2 => h1.keep (((Below.refl w.heap.size w).alloc (Nat.le_refl _) o1).alloc (by simp) o2)
  have H2 : Hid (∀ o1 o2, IntsAt ((w.alloc o1).alloc o2) k2 nd.kids) := fun o1 o2 => h2.keep (((Below.refl w.heap.size w).alloc (Nat.le_refl _) o1).alloc (by simp) o2)
  obtain ⟨a1, cap1, rfl, _, _, _⟩ := h1
  obtain ⟨a2, cap2, rfl, _, _, _⟩ := h2
  go_enter Tryz.func263, Tryz.ntmps263
  go_wp2_with (go_at_call 159; refine (eqIntS_any _ _ nd.kids _ (H1.out _ _) (H2.out _ _)).mono ?_; rintro e w1 ⟨rfl, n, rfl⟩)
  go_ret
  exact ⟨rfl, below_drewN (((Below.refl w.heap.size w).alloc (Nat.le_refl _) _).alloc (by simp) _) n⟩

set_option maxHeartbeats 1000000 in
theorem eqLNodeS_any (v1 v2 : Value) (ns : List Nd) (w : World) (h1 : NodesAt w v1 ns) (h2 : NodesAt w v2 ns) :
    Calls Tryz.prog 232 #[v1, v2] w fun e w' => e = .returned (.bool true) ∧ Below w.heap.size w w' := by
  obtain ⟨a1, cap1, rfl, hl1, hm1, hc1⟩ := h1
  obtain ⟨a2, cap2, rfl, hl2, hm2, hc2⟩ := h2
  unfold maxLen at hm1 hm2
  have H1 : Hid (0 < ns.length → ∃ b off, a1 = some ⟨b, off, none⟩ ∧ ∀ i (h : i < ns.length), NodeAt w b (off + i * 3) ns[i]) := hc1
  have H2 : Hid (0 < ns.length → ∃ b off, a2 = some ⟨b, off, none⟩ ∧ ∀ i (h : i < ns.length), NodeAt w b (off + i * 3) ns[i]) := hc2
  clear hc1 hc2
  go_enter Tryz.func232, Tryz.ntmps232
  go_wp2_with fail
  go_loopw [5] (fun i wr => ∃ (k : Nat), k ≤ ns.length ∧ i = .int .i64 k ∧ Below w.heap.size w wr) (fun i _ => ns.length - (intOf i).toNat)
  case atStart => exact ⟨0, by omega, rfl, Below.refl _ _⟩
  case round =>
    obtain ⟨k, hk, rfl, hbel⟩ := hrel
    by_cases hlt : k < ns.length
    · obtain ⟨b1, o1, rfl, c1⟩ := H1.out (by omega)
      obtain ⟨b2, o2, rfl, c2⟩ := H2.out (by omega)
      obtain ⟨p1, p2, kv1, p3, p4⟩ := (c1 k hlt).keep (w' := w) (Below.refl _ _)
      obtain ⟨q1, q2, kv2, q3, q4⟩ := (c2 k hlt).keep (w' := w) (Below.refl _ _)
      have p1' := keep_cell hbel p1
      have p2' := keep_cell hbel p2
      have p3' := keep_cell hbel p3
      have p4' := p4.keep hbel
      have q1' := keep_cell hbel q1
      have q2' := keep_cell hbel q2
      have q3' := keep_cell hbel q3
      have q4' := q4.keep hbel
      have hlt' : (k : Int) < ns.length := by omega
      clear c1 c2 H1 H2 p1 p2 p3 p4 q1 q2 q3 q4
      generalize ns[k] = nd at *
      go_wp2_with fail
      go_region_with (go_at_call 263; refine (eqLNode_any nd kv1 kv2 _ ?_ ?_).mono ?_; exact p4'.keep (below_drewN (Below.refl _ _) _); exact q4'.keep (below_drewN (Below.refl _ _) _); rintro e w1 ⟨rfl, hb⟩)
      all_goals
        go_wp2_with fail
        go_roundw
        case rel => exact ⟨k + 1, by omega, by go_num, hbel.drew.trans (hb.mono hbel.size)⟩
        case measure => simp [intOf]; omega
    · go_wp2_with fail
      go_ret
      exact ⟨rfl, hbel⟩

set_option maxHeartbeats 1000000 in
theorem eqLevel_any (v1 v2 : Value) (ns : List Nd) (w : World) (h1 : NodesAt w v1 ns) (h2 : NodesAt w v2 ns) :
    Calls Tryz.prog 189 #[.agg #[v1], .agg #[v2]] w fun e w' => e = .returned (.bool true) ∧ Below w.heap.size w w' := by
  have H1 : Hid (∀ o1 o2, NodesAt ((w.alloc o1).alloc o2) v1 ns) := fun o1 o2 => h1.keep (((Below.refl w.heap.size w).alloc (Nat.le_refl _) o1).alloc (by simp) o2)
  have H2 : Hid (∀ o1 o2, NodesAt ((w.alloc o1).alloc o2) v2 ns) := fun o1 o2 => h2.keep (((Below.refl w.heap.size w).alloc (Nat.le_refl _) o1).alloc (by simp) o2)
  obtain ⟨a1, cap1, rfl, _, _, _⟩ := h1
  obtain ⟨a2, cap2, rfl, _, _, _⟩ := h2
  go_enter Tryz.func189, Tryz.ntmps189
  go_wp2_with (go_at_call 232; refine (eqLNodeS_any _ _ ns _ (H1.out _ _) (H2.out _ _)).mono ?_; rintro e w1 ⟨rfl, hb⟩)
  go_ret
  exact ⟨rfl, (((Below.refl w.heap.size w).alloc (Nat.le_refl _) _).alloc (by simp) _).trans (hb.mono (by simp; omega))⟩
end Go.Proofs.YtpmpooekpeocdaaGreat

/- What the counting, copying and comparing of rows of texts answers. -/
namespace Go.Proofs.YtpmpooekpeocdaaGreat
open Go.ChangeShapes Go.WideShapes Go.ChangeAt Go.RowKit

def strSum : List ByteArray → Nat
  | [] => 0
  | s :: l => s.size + strSum l
theorem strSum_append (a b : List ByteArray) : strSum (a ++ b) = strSum a + strSum b := by
  induction a with
  | nil => simp [strSum]
  | cons x a ih => simp [strSum, ih]; omega
theorem strSum_snoc (ss : List ByteArray) (i : Nat) (h : i < ss.length) : strSum (ss.take (i + 1)) = strSum (ss.take i) + ss[i].size := by
  rw [List.take_succ_eq_append_getElem h, strSum_append]; simp [strSum]
theorem strSum_le (ss : List ByteArray) (i : Nat) : strSum (ss.take i) ≤ strSum ss := by
  conv => rhs; rw [← List.take_append_drop i ss, strSum_append]
  omega

set_option maxRecDepth 20000 in
set_option maxHeartbeats 1000000 in
theorem eqStringS_any (v1 v2 : Value) (ks : List ByteArray) (w : World) (h1 : StrsAt w v1 ks) (h2 : StrsAt w v2 ks) :
    Calls Tryz.prog 17 #[v1, v2] w fun e w' => e = .returned (.bool true) ∧ ∃ n, w' = w.drewN n := by
  obtain ⟨a1, cap1, rfl, hl1, hm1, hc1⟩ := h1
  obtain ⟨a2, cap2, rfl, hl2, hm2, hc2⟩ := h2
  unfold maxLen at hm1 hm2
  have H1 := hide hc1
  have H2 := hide hc2
  clear hc1 hc2
  go_enter Tryz.func17, Tryz.ntmps17
  go_wp2_with fail
  go_loopw [5] (fun i wr => ∃ (k : Nat) (n : Nat), k ≤ ks.length ∧ i = .int .i64 k ∧ wr = w.drewN n) (fun i _ => ks.length - (intOf i).toNat)
  case atStart => exact ⟨0, 0, by omega, rfl, rfl⟩
  case round =>
    obtain ⟨k, n, hk, rfl, rfl⟩ := hrel
    by_cases hlt : k < ks.length
    · obtain ⟨b1, o1, rfl, c1⟩ := H1.out (by omega)
      obtain ⟨b2, o2, rfl, c2⟩ := H2.out (by omega)
      have d1 := c1 k hlt
      have d2 := c2 k hlt
      have hlt' : (k : Int) < ks.length := by omega
      clear c1 c2 H1 H2
      generalize ks[k] = q at *
      go_wp2_with fail
      go_region
      go_wp2_with fail
      go_roundw
      case rel => exact ⟨k + 1, _, by omega, by go_num, rfl⟩
      case measure => simp [intOf]; omega
    · go_wp2_with fail
      go_ret
      exact ⟨rfl, n, rfl⟩

theorem row_form4 {w : World} {base : Nat} {e : TypeId} {size : Nat} {v : Value} {n : Nat} {xs : List Value} (h : w.ownsRow base e size v n xs) : ∃ a cap, v = .slice a n cap := by
  rcases h.2 with ⟨rfl, rfl⟩ | ⟨g, cap, _, rfl, _⟩
  · exact ⟨_, _, rfl⟩
  · exact ⟨_, _, rfl⟩
end Go.Proofs.YtpmpooekpeocdaaGreat
