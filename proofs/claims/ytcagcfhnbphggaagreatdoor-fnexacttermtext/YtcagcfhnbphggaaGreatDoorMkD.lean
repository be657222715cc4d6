/- What markLNodeS answers: a level's nodes are marked, within their own blocks. -/
import Derived.Test.YtcagcfhnbphggaaGreatDoorMkC
namespace Go.Proofs.YtcagcfhnbphggaaGreatDoor
open Go.ChangeShapes Go.WideShapes Go.ChangeAt Go.RowKit

set_option maxRecDepth 20000 in
set_option maxHeartbeats 4000000 in
theorem markLNodeS_any (lo hi : Nat) (v : Value) (ns : List Nd) (k0 : Nat) (w : World) (h : NdR lo hi w v ns) (hlo : lo ≤ w.heap.size) (hkl : ∀ nd ∈ ns, nd.kids.length ≤ 1048576) (hk1 : 1 ≤ k0) (hk : k0 + costN ns ≤ 50000000) (hn : ns.length ≤ 1048576) :
    Calls Tryz.prog 60 #[v, .int .i64 k0] w fun e w' => e = .returned (.int .i64 ((k0 + costN ns : Nat) : Int)) ∧ NdR lo hi w' v (markN k0 ns) ∧ Chg lo hi w w' := by
  obtain ⟨a, cap, hv⟩ := h.form
  subst hv
  have H0 : Hid (NdR lo hi w (.slice a ns.length cap) (partN k0 ns 0)) := by show NdR _ _ _ _ _; simp only [partN, List.take_zero, markN, List.drop_zero, List.nil_append]; exact h
  have HKL := hide hkl
  clear h hkl
  go_enter Tryz.func60, Tryz.ntmps60
  go_wp2_with fail
  go_loopw [1, 5] (fun m i wr => ∃ (j K : Nat), j ≤ ns.length ∧ i = .int .i64 j ∧ m = .int .i64 K ∧ Hid (K = k0 + costN (ns.take j)) ∧ Hid (NdR lo hi wr (.slice a ns.length cap) (partN k0 ns j)) ∧ Hid (Chg lo hi w wr)) (fun _ i _ => ns.length - (intOf i).toNat)
  case atStart => exact ⟨0, k0, by omega, rfl, rfl, by show _ = _; simp [costN], H0, Chg.refl _ _ _⟩
  case round =>
    obtain ⟨j, K, hj, rfl, rfl, HK, HN, HC⟩ := hrel
    clear H0
    have hK1 : 1 ≤ K := by have := HK.out; omega
    have hK2 : K ≤ 50000000 := by have := HK.out; have := costN_le ns j; omega
    by_cases hlt : j < ns.length
    · have hlt' : (j : Int) < ns.length := by omega
      obtain ⟨xs, h1, h0, h2, h3⟩ := HN.out
      have hLl := partN_len k0 ns j
      have hjL : j < (partN k0 ns j).length := by omega
      obtain ⟨g, rfl⟩ : ∃ g, a = some ⟨g, 0, none⟩ := by
        rcases h1.2 with ⟨_, e⟩ | ⟨g, c2, _, e, _⟩
        · omega
        · injection e with e1 e2 e3; exact ⟨g, e1⟩
      have hget : (partN k0 ns j)[j] = ns[j] := by
        have := partN_get k0 ns j hlt
        rw [List.getElem?_eq_getElem hjL] at this
        exact Option.some.inj this
      obtain ⟨c1, c2, kv, c3, hkv, hkb⟩ := h2 j hjL
      rw [hget] at c1 c2 hkv
      have h1' : wr.ownsRow lo 117 3 (.slice (some ⟨g, 0, none⟩) ns.length cap) ns.length xs := by rw [← hLl] at h1 ⊢; exact h1
      have hxl := h1'.1
      have e1 := h1'.cellAt (j * 3) (by omega)
      have e2 := h1'.cellAt (j * 3 + 1) (by omega)
      have e3 := h1'.cellAt (j * 3 + 2) (by omega)
      rw [c1] at e1
      rw [c2] at e2
      rw [c3] at e3
      have f1 := h1'.frozenAt (j * 3)
      have f2 := h1'.frozenAt (j * 3 + 1)
      have hgb := h1'.lt g rfl
      have hghi := h0 g rfl
      obtain ⟨ka, kc, hkf⟩ := row_form hkv
      obtain ⟨W1, hW1⟩ : ∃ W1, W1 = wr.setCell ⟨g, j * 3, none⟩ (.int .i64 K) := ⟨_, rfl⟩
      have s1 : W1.ownsRow lo 117 3 (.slice (some ⟨g, 0, none⟩) ns.length cap) ns.length (xs.set (j * 3) (.int .i64 K)) := by rw [hW1]; exact (h1'.stored (j * 3) (.int .i64 K)).1
      have hC1 : Chg lo hi wr W1 := by rw [hW1]; exact Chg.set wr hgb.1 hghi _
      have hs1 : W1.heap.size = wr.heap.size := by rw [hW1, size_set]
      have hb1 : ∀ b, b < wr.heap.size → b ≠ g → W1.heap[b]? = wr.heap[b]? := fun b _ hb => by rw [hW1]; exact Below.heap_setCell wr _ _ b hb
      have y2 : W1.cell? ⟨g, j * 3 + 1, none⟩ = some (.string ns[j].s) := by rw [s1.cellAt _ (by omega), List.getElem?_set_ne (by omega)]; exact c2
      have y2f := s1.frozenAt (j * 3 + 1)
      have HMT := hide (markText_any (K + 1) W1 (by omega) (by omega))
      have HS1 := hide s1
      have HC1 := hide hC1
      have HB1 := hide hb1
      have HH1 := hide h1
      have HHP := hide h1'
      have HH2 := hide h2
      have HH3 := hide h3
      have HKV := hide hkv
      have HKB := hide hkb
      have HC3 := hide c3
      have hkl := HKL.out ns[j] (List.getElem_mem hlt)
      have HLL := hide hLl
      have hsz := HC.out.1.size
      clear s1 hC1 hb1 h1 h2 h3 hkv hkb c1 c2 c3 hLl hget hjL h1' e3
      generalize ns[j].k = nk at *
      generalize ns[j].s = nss at *
      go_wp2_with fail
      rw [← hW1]
      clear hW1 e1 e2 f1 f2
      have hKc : (K : Int) + 1 = ((K + 1 : Nat) : Int) := by omega
      rw [hKc]
      clear hKc
      refine HMT.out.mono ?_
      rintro e w2 ⟨rfl, hb2⟩
      have hs2 := hb2.size
      have s2 := row_keep hb2 HS1.out
      have y2 := keep_cell hb2 y2
      have y2f := s2.frozenAt (j * 3 + 1)
      have y3 : w2.cell? ⟨g, j * 3 + 2, none⟩ = some kv := by rw [s2.cellAt _ (by omega), List.getElem?_set_ne (by omega)]; exact HC3.out
      obtain ⟨W3, hW3⟩ : ∃ W3, W3 = w2.setCell ⟨g, j * 3 + 1, none⟩ (.string (mt (K + 1))) := ⟨_, rfl⟩
      have s3 : W3.ownsRow lo 117 3 (.slice (some ⟨g, 0, none⟩) ns.length cap) ns.length ((xs.set (j * 3) (.int .i64 K)).set (j * 3 + 1) (.string (mt (K + 1)))) := by rw [hW3]; exact (s2.stored (j * 3 + 1) _).1
      have hC3 : Chg lo hi w2 W3 := by rw [hW3]; exact Chg.set w2 hgb.1 hghi _
      have hs3 : W3.heap.size = w2.heap.size := by rw [hW3, size_set]
      have hb3 : ∀ b, b < wr.heap.size → b ≠ g → W3.heap[b]? = wr.heap[b]? := fun b hb hbg => by
        rw [hW3, Below.heap_setCell w2 _ _ b hbg, hb2.block b (by omega)]; exact HB1.out b hb hbg
      have hkv3 : KidRow lo W3 kv ns[j].kids := row_same HKV.out (fun q hq => hb3 q (World.ownsRow.lt HKV.out q hq).2 (fun e => by
        rcases HKV.out.2 with ⟨hn, _⟩ | ⟨g2, cap2, cur2, hn, _⟩
        · rw [hn] at hq; simp [Value.ownBlock] at hq
        · have hd : wr.ownsRow lo 3 1 (.slice (some ⟨g2, 0, none⟩) ns[j].kids.length cap2) ns[j].kids.length (ns[j].kids.map (Value.int .i64)) := by rw [← hn]; exact HKV.out
          rw [hn] at hq
          simp [Value.ownBlock] at hq
          subst hq
          exact rows_ne hd HHP.out (by decide) e))
      have HMI := hide (markIntS_any lo kv ns[j].kids (K + 2) W3 hkv3 hkl (by omega))
      have HS3 := hide s3
      have HB3 := hide hb3
      have HCC := hide (((HC.out.trans HC1.out).trans (Chg.of (hi := hi) hb2 (by omega))).trans hC3)
      clear s2 s3 hC3 hb3 hkv3 hb2 HS1 HC1 HB1 HMT hs1 hs3
      subst hkf
      go_wp2_with fail
      rw [← hW3]
      clear hW3 y2 y2f y3
      have hKc : (K : Int) + 1 + 1 = ((K + 2 : Nat) : Int) := by omega
      rw [hKc]
      clear hKc
      refine HMI.out.mono ?_
      rintro e w4 ⟨rfl, hk4, hg4⟩
      have HN4 : Hid (NdR lo hi w4 (.slice (some ⟨g, 0, none⟩) ns.length cap) (partN k0 ns (j + 1))) := by
        show NdR _ _ _ _ _
        have hll := HLL.out
        have hKe := HK.out
        have hput := NdR.put (ns := partN k0 ns j) (i := j) (k := (K : Int)) (s := mt (K + 1)) (ks := nums (K + 2) ns[j].kids.length) (by omega) (by rw [hll]; exact HHP.out) hghi HH2.out HH3.out HC3.out (by rw [hll]; exact HS3.out) HB3.out hg4 hk4
        rw [hKe, partN_set k0 ns j hlt, hll] at hput
        exact hput
      have HC4 := hide (HCC.out.trans (Chg.grown hg4 (fun b hb => ⟨(World.ownsRow.lt hk4 b hb).1, HKB.out b hb⟩) (by have := HCC.out.1.size; omega)))
      have HK4 : Hid (K + 2 + ns[j].kids.length = k0 + costN (ns.take (j + 1))) := by show _ = _; rw [costN_snoc ns j hlt]; have := HK.out; omega
      clear hk4 hg4
      generalize ns[j].kids.length = kl at *
      go_wp2_with fail
      go_roundw
      case rel => exact ⟨j + 1, K + 2 + kl, by omega, by go_num, by go_num, HK4, HN4, HC4⟩
      case measure => simp [intOf]; omega
    · have hjn : j = ns.length := by omega
      subst hjn
      have HR : Hid (K = k0 + costN ns) := by show _ = _; have := HK.out; rwa [List.take_length] at this
      have HN2 : Hid (NdR lo hi wr (.slice a ns.length cap) (markN k0 ns)) := by
        have := HN.out
        unfold partN at this
        rw [List.take_length, List.drop_length, List.append_nil] at this
        exact this
      go_wp2_with fail
      go_ret
      exact ⟨ret_int (by rw [HR.out]), HN2.out, HC.out⟩
end Go.Proofs.YtcagcfhnbphggaaGreatDoor
