/- What eqByteS, markByteS and heldByteS answer. -/
import Derived.Test.YtcagcfhnbphggaaGreatDoorTMk
import Derived.Test.YtcagcfhnbphggaaGreatDoorEq
import Derived.Deep.RegionWith
import Derived.Deep.RegionHeld3
namespace Go.Proofs.YtcagcfhnbphggaaGreatDoor
open Go.ChangeShapes Go.WideShapes Go.ChangeAt Go.RowKit

/-- An owned row of bytes, its cells. -/
theorem own_cells {base : Nat} {w : World} {v : Value} {n : Nat} {xs : List Value} (h : w.ownsRow base 5 1 v n xs) :
    ∃ a cap, v = .slice a n cap ∧ n ≤ cap ∧ cap ≤ maxLen ∧ (0 < n → ∃ g, a = some ⟨g, 0, none⟩ ∧ ∀ j, j < n → w.cell? ⟨g, j, none⟩ = xs[j]?) := by
  have h0 := h
  obtain ⟨h1, h2⟩ := h
  rcases h2 with ⟨rfl, rfl⟩ | ⟨g, cap, cur, rfl, h4, h5, h6, h7, _⟩
  · exact ⟨none, 0, rfl, Nat.le_refl _, by unfold maxLen; omega, fun h => by omega⟩
  · exact ⟨_, cap, rfl, h6, h7, fun _ => ⟨g, rfl, fun j hj => World.ownsRow.cellAt h0 j (by omega)⟩⟩
theorem bC_get (bs : List UInt8) (j : Nat) (h : j < bs.length) : (bC bs)[j]? = some (.int .u8 (bs[j].toNat : Int)) := by
  unfold bC
  rw [List.getElem?_map, List.getElem?_eq_getElem h]
  rfl
set_option maxHeartbeats 1000000 in
theorem eqByteS_any (b1 b2 : Nat) (v1 v2 : Value) (bs : List UInt8) (w : World) (h1 : w.ownsRow b1 5 1 v1 bs.length (bC bs)) (h2 : w.ownsRow b2 5 1 v2 bs.length (bC bs)) :
    Calls Tryz.prog 8 #[v1, v2] w fun e w' => e = .returned (.bool true) ∧ ∃ n, w' = w.drewN n := by
  obtain ⟨a1, cap1, rfl, hl1, hm1, hc1⟩ := own_cells h1
  obtain ⟨a2, cap2, rfl, hl2, hm2, hc2⟩ := own_cells h2
  unfold maxLen at hm1 hm2
  have H1 := hide hc1
  have H2 := hide hc2
  clear hc1 hc2 h1 h2
  go_enter Tryz.func8, Tryz.ntmps8
  go_wp2_with fail
  go_loopw [5] (fun i wr => ∃ (k : Nat) (n : Nat), k ≤ bs.length ∧ i = .int .i64 k ∧ wr = w.drewN n) (fun i _ => bs.length - (intOf i).toNat)
  case atStart => exact ⟨0, 0, by omega, rfl, rfl⟩
  case round =>
    obtain ⟨k, n, hk, rfl, rfl⟩ := hrel
    by_cases hlt : k < bs.length
    · obtain ⟨g1, rfl, c1⟩ := H1.out (by omega)
      obtain ⟨g2, rfl, c2⟩ := H2.out (by omega)
      have d1 := (c1 k hlt).trans (bC_get bs k hlt)
      have d2 := (c2 k hlt).trans (bC_get bs k hlt)
      have hlt' : (k : Int) < bs.length := by omega
      clear c1 c2 H1 H2
      generalize (bs[k].toNat : Int) = q at *
      go_wp2_with fail
      go_region
      go_wp2_with fail
      go_roundw
      case rel => exact ⟨k + 1, _, by omega, by go_num, rfl⟩
      case measure => simp [intOf]; omega
    · go_wp2_with fail
      go_ret
      exact ⟨rfl, n, rfl⟩
/-- Marks of bytes from k on. -/
def mB (k n : Nat) : List Value := (List.range n).map fun j => .int .u8 (IntKind.u8.wrap ((k + j : Nat) : Int))
theorem mB_len (k n : Nat) : (mB k n).length = n := by simp [mB]
theorem mB_get (k n j : Nat) (h : j < n) : (mB k n)[j]? = some (.int .u8 (IntKind.u8.wrap ((k + j : Nat) : Int))) := by
  unfold mB
  rw [List.getElem?_map, List.getElem?_range h]
  rfl
set_option maxRecDepth 20000 in
set_option maxHeartbeats 2000000 in
theorem markByteS_any (lo : Nat) (v : Value) (n : Nat) (xs0 : List Value) (k : Nat) (w : World) (h : w.ownsRow lo 5 1 v n xs0) (hl : n ≤ 1048576) (hk : k ≤ 100000000) :
    Calls Tryz.prog 11 #[v, .int .i64 k] w fun e w' => e = .returned (.int .i64 ((k + n : Nat) : Int)) ∧ w'.ownsRow lo 5 1 v n (mB k n) ∧ w.grownBy w' v.ownBlock := by
  by_cases h0 : n = 0
  · subst h0
    have hx : xs0 = mB k 0 := by
      have := h.1
      exact List.eq_nil_of_length_eq_zero (by omega)
    have HH := hide (show w.ownsRow lo 5 1 v 0 (mB k 0) by rw [← hx]; exact h)
    obtain ⟨a, cap, rfl⟩ := row_form h
    clear h
    go_enter Tryz.func11, Tryz.ntmps11
    go_wp2_with fail
    go_loopw [1, 5] (fun m i wr => m = .int .i64 k ∧ i = .int .i64 0 ∧ w = wr) (fun _ _ _ => 0)
    case atStart => exact ⟨rfl, rfl, rfl⟩
    case round =>
      obtain ⟨rfl, rfl, rfl⟩ := hrel
      go_wp2_with fail
      go_ret
      exact ⟨by simp, HH.out, ⟨rfl, rfl, rfl, Nat.le_refl _, fun _ _ _ => rfl⟩⟩
  · obtain ⟨g, cap, hv⟩ : ∃ g cap, v = .slice (some ⟨g, 0, none⟩) n cap := by
      rcases h.2 with ⟨_, h1⟩ | ⟨g, cap, _, h1, _⟩
      · omega
      · exact ⟨g, cap, h1⟩
    subst hv
    have HO := hide h
    clear h
    go_enter Tryz.func11, Tryz.ntmps11
    go_wp2_with fail
    go_loopw [1, 5] (fun m i wr => ∃ (j : Nat) (xs : List Value), j ≤ n ∧ i = .int .i64 j ∧ m = .int .i64 ((k + j : Nat) : Int) ∧ wr.ownsRow lo 5 1 (.slice (some ⟨g, 0, none⟩) n cap) n xs ∧ Hid (∀ q, q < j → xs[q]? = some (.int .u8 (IntKind.u8.wrap ((k + q : Nat) : Int)))) ∧ Hid (w.grownBy wr (some g))) (fun _ i _ => n - (intOf i).toNat)
    case atStart => exact ⟨0, _, by omega, rfl, rfl, HO.out, fun q h => by omega, ⟨rfl, rfl, rfl, Nat.le_refl _, fun _ _ _ => rfl⟩⟩
    case round =>
      obtain ⟨j, xs, hj, rfl, rfl, hownr, HX, HG⟩ := hrel
      clear HO
      by_cases hlt : j < n
      · have hlt' : (j : Int) < n := by omega
        have HST := hide (hownr.stored j (.int .u8 (IntKind.u8.wrap ((k + j : Nat) : Int)))).1
        have hfz := hownr.frozenAt j
        have hce := hownr.cellAt j (by omega)
        have hxl := hownr.1
        rw [List.getElem?_eq_getElem (by omega)] at hce
        have HX2 : Hid (∀ q, q < j + 1 → (xs.set j (.int .u8 (IntKind.u8.wrap ((k + j : Nat) : Int))))[q]? = some (.int .u8 (IntKind.u8.wrap ((k + q : Nat) : Int)))) := by
          show ∀ q, _
          intro q hq
          by_cases e : j = q
          · subst e; rw [List.getElem?_set_self (by omega)]
          · rw [List.getElem?_set_ne e]; exact HX.out q (by omega)
        have HG2 := hide (HG.out.trans (grown_set wr ⟨g, j, none⟩ (.int .u8 (IntKind.u8.wrap ((k + j : Nat) : Int)))))
        obtain ⟨K, hK⟩ : ∃ K, K = k + j := ⟨_, rfl⟩
        have HKE := hide hK
        rw [← hK] at HST HX2 HG2 ⊢
        have hK2 : K ≤ 200000000 := by omega
        clear HX HG hK hownr
        go_wp2_with fail
        go_roundw
        case rel => exact ⟨j + 1, _, by omega, by go_num, by have := HKE.out; rw [show k + (j + 1) = K + 1 by omega]; go_num, HST.out, HX2, HG2⟩
        case measure => simp [intOf]; omega
      · have hjk : j = n := by omega
        subst hjk
        have hxs : xs = mB k j := by
          refine List.ext_getElem? fun q => ?_
          by_cases hq : q < j
          · rw [HX.out q hq, mB_get k j q hq]
          · have h1 := hownr.1
            rw [List.getElem?_eq_none (by omega), List.getElem?_eq_none (by rw [mB_len]; omega)]
        have HK : Hid (wr.ownsRow lo 5 1 (.slice (some ⟨g, 0, none⟩) j cap) j (mB k j)) := by
          show World.ownsRow _ _ _ _ _ _ _
          rw [← hxs]
          exact hownr
        clear hownr hxs HX
        go_wp2_with fail
        go_ret
        exact ⟨rfl, HK.out, HG.out⟩
set_option maxRecDepth 20000 in
set_option maxHeartbeats 2000000 in
theorem heldByteS_any (base : Nat) (v : Value) (n k : Nat) (w : World) (h : w.ownsRow base 5 1 v n (mB k n)) (hl : n ≤ 1048576) (hk : k ≤ 100000000) :
    Calls Tryz.prog 12 #[v, .int .i64 k] w fun e w' => e = .returned (.int .i64 ((k + n : Nat) : Int)) ∧ w' = w := by
  obtain ⟨a, cap, rfl, h1, h2, hc⟩ := own_cells h
  have HC := hide hc
  unfold maxLen at h2
  clear hc h
  go_enter Tryz.func12, Tryz.ntmps12
  go_wp2_with fail
  go_loopw [1, 5] (fun m i wr => ∃ (j : Nat), j ≤ n ∧ i = .int .i64 j ∧ m = .int .i64 ((k + j : Nat) : Int) ∧ w = wr) (fun _ i _ => n - (intOf i).toNat)
  case atStart => exact ⟨0, by omega, rfl, rfl, rfl⟩
  case round =>
    obtain ⟨j, hj, rfl, rfl, rfl⟩ := hrel
    by_cases hlt : j < n
    · obtain ⟨g, rfl, hcell⟩ := HC.out (by omega)
      have hc := (hcell j hlt).trans (mB_get k n j hlt)
      have hlt' : (j : Int) < n := by omega
      obtain ⟨K, hK⟩ : ∃ K, K = k + j := ⟨_, rfl⟩
      have HKE := hide hK
      rw [← hK] at hc ⊢
      have hK2 : K ≤ 200000000 := by omega
      have hself : (IntKind.u8.wrap (K : Int) != IntKind.u8.wrap (K : Int)) = false := by simp
      clear hcell hK HC
      go_wp2_with fail
      go_roundw
      case rel => exact ⟨j + 1, by omega, by go_num, by have := HKE.out; rw [show k + (j + 1) = K + 1 by omega]; go_num, by first | rfl | trivial⟩
      case measure => simp [intOf]; omega
    · have hjn : j = n := by omega
      subst hjn
      go_wp2_with fail
      go_ret
      exact ⟨rfl, rfl⟩
end Go.Proofs.YtcagcfhnbphggaaGreatDoor

/- Rows of nodes of levels within a range of blocks, and their marks. -/
namespace Go.Proofs.YtcagcfhnbphggaaGreatDoor
open Go.ChangeShapes Go.WideShapes Go.ChangeAt Go.RowKit

/-- A row of nodes that lies within a range of blocks. -/
def NdR (lo hi : Nat) (w : World) (v : Value) (ns : List Nd) : Prop :=
  ∃ xs, w.ownsRow lo 117 3 v ns.length xs ∧ (∀ b, v.ownBlock = some b → b < hi) ∧ (∀ i (h : i < ns.length), xs[i * 3]? = some (.int .i64 ns[i].k) ∧ xs[i * 3 + 1]? = some (.string ns[i].s) ∧ ∃ kv, xs[i * 3 + 2]? = some kv ∧ KidRow lo w kv ns[i].kids ∧ ∀ b, kv.ownBlock = some b → b < hi) ∧ Apart xs ns.length
theorem NdW.toR {lo : Nat} {w : World} {v : Value} {ns : List Nd} (h : NdW lo w v ns) : NdR lo w.heap.size w v ns := by
  obtain ⟨xs, h1, h2, h3⟩ := h
  refine ⟨xs, h1, fun b hb => (World.ownsRow.lt h1 b hb).2, fun i hi => ?_, h3⟩
  obtain ⟨a, b, kv, c, d⟩ := h2 i hi
  exact ⟨a, b, kv, c, d, fun b hb => (World.ownsRow.lt d b hb).2⟩
/-- Where the blocks of the range are as before. -/
theorem NdR.same {lo hi : Nat} {w w' : World} {v : Value} {ns : List Nd} (h : NdR lo hi w v ns) (hh : ∀ b, lo ≤ b → b < hi → w'.heap[b]? = w.heap[b]?) : NdR lo hi w' v ns := by
  obtain ⟨xs, h1, h0, h2, h3⟩ := h
  refine ⟨xs, row_same h1 (fun g hg => hh g (World.ownsRow.lt h1 g hg).1 (h0 g hg)), h0, fun i hi => ?_, h3⟩
  obtain ⟨a, b, kv, c, d, e⟩ := h2 i hi
  exact ⟨a, b, kv, c, row_same d (fun g hg => hh g (World.ownsRow.lt d g hg).1 (e g hg)), e⟩
theorem NdR.out {lo hi l2 h2 : Nat} {w w' : World} {v : Value} {ns : List Nd} (h : NdR lo hi w v ns) (hc : Chg l2 h2 w w') (hd : hi ≤ l2 ∨ h2 ≤ lo) (hl : hi ≤ w.heap.size) : NdR lo hi w' v ns :=
  h.same fun b h3 h4 => hc.out (by omega) (by omega)
theorem NdR.form {lo hi : Nat} {w : World} {v : Value} {ns : List Nd} (h : NdR lo hi w v ns) : ∃ a cap, v = .slice a ns.length cap := by
  obtain ⟨xs, h1, _⟩ := h; exact row_form h1
theorem NdR.nodes {lo hi : Nat} {w : World} {v : Value} {ns : List Nd} (h : NdR lo hi w v ns) : NodesAt w v ns := by
  obtain ⟨xs, h1, _, h2, _⟩ := h
  rcases h1.2 with ⟨h3, h4⟩ | ⟨g, cap, cur, h3, h4⟩
  · exact ⟨none, 0, by rw [h3, h4], by omega, by unfold maxLen; omega, fun h => by omega⟩
  · subst h3
    exact NdRow.nodes (Q := fun _ => True) ⟨xs, h1, fun i hi => by obtain ⟨a, b, kv, c, d, _⟩ := h2 i hi; exact ⟨a, b, kv, c, d, fun _ _ => trivial⟩⟩
/-- How many marks a list of nodes takes. -/
def costN : List Nd → Nat
  | [] => 0
  | nd :: ns => 2 + nd.kids.length + costN ns
def markN (k : Nat) : List Nd → List Nd
  | [] => []
  | nd :: ns => ⟨(k : Int), mt (k + 1), nums (k + 2) nd.kids.length⟩ :: markN (k + 2 + nd.kids.length) ns
theorem costN_append (a b : List Nd) : costN (a ++ b) = costN a + costN b := by
  induction a with
  | nil => simp [costN]
  | cons x a ih => simp [costN, ih]; omega
theorem markN_append (a b : List Nd) : ∀ k, markN k (a ++ b) = markN k a ++ markN (k + costN a) b := by
  induction a with
  | nil => intro k; simp [markN, costN]
  | cons x a ih => intro k; simp only [List.cons_append, markN, ih, costN]; rw [show k + 2 + x.kids.length + costN a = k + (2 + x.kids.length + costN a) by omega]
theorem markN_len (ns : List Nd) : ∀ k, (markN k ns).length = ns.length := by
  induction ns with
  | nil => intro k; rfl
  | cons x a ih => intro k; simp [markN, ih]
theorem costN_snoc (ns : List Nd) (i : Nat) (h : i < ns.length) : costN (ns.take (i + 1)) = costN (ns.take i) + (2 + ns[i].kids.length) := by
  rw [List.take_succ_eq_append_getElem h, costN_append]; simp [costN]
theorem costN_le (ns : List Nd) (i : Nat) : costN (ns.take i) ≤ costN ns := by
  conv => rhs; rw [← List.take_append_drop i ns, costN_append]
  omega
/-- Some nodes marked, the others not yet. -/
def partN (k : Nat) (ns : List Nd) (i : Nat) : List Nd := markN k (ns.take i) ++ ns.drop i
theorem partN_len (k : Nat) (ns : List Nd) (i : Nat) : (partN k ns i).length = ns.length := by
  unfold partN; rw [List.length_append, markN_len, ← List.length_append, List.take_append_drop]
theorem partN_get (k : Nat) (ns : List Nd) (i : Nat) (h : i < ns.length) : (partN k ns i)[i]? = some ns[i] := by
  unfold partN
  have hl : (markN k (ns.take i)).length = i := by rw [markN_len]; simp; omega
  rw [List.getElem?_append_right (by omega), hl, Nat.sub_self, List.drop_eq_getElem_cons h]; rfl
theorem partN_set (k : Nat) (ns : List Nd) (i : Nat) (h : i < ns.length) : (partN k ns i).set i ⟨((k + costN (ns.take i) : Nat) : Int), mt (k + costN (ns.take i) + 1), nums (k + costN (ns.take i) + 2) ns[i].kids.length⟩ = partN k ns (i + 1) := by
  unfold partN
  have hl : (markN k (ns.take i)).length = i := by rw [markN_len]; simp; omega
  rw [List.set_append_right _ _ (by omega), hl, Nat.sub_self, List.drop_eq_getElem_cons h, List.set_cons_zero, List.take_succ_eq_append_getElem h, markN_append]
  simp [markN]
/-- One node written anew, within its own blocks. -/
theorem NdR.put {lo hi : Nat} {w w1 w2 : World} {g cap : Nat} {ns : List Nd} {xs : List Value} {i : Nat} {kv : Value} {k : Int} {s : ByteArray} {ks : List Int} (hi0 : i < ns.length) (h1 : w.ownsRow lo 117 3 (.slice (some ⟨g, 0, none⟩) ns.length cap) ns.length xs) (h0 : g < hi) (h2 : ∀ i (h : i < ns.length), xs[i * 3]? = some (.int .i64 ns[i].k) ∧ xs[i * 3 + 1]? = some (.string ns[i].s) ∧ ∃ kv, xs[i * 3 + 2]? = some kv ∧ KidRow lo w kv ns[i].kids ∧ ∀ b, kv.ownBlock = some b → b < hi) (h3 : Apart xs ns.length)
    (hkv : xs[i * 3 + 2]? = some kv) (ho : w1.ownsRow lo 117 3 (.slice (some ⟨g, 0, none⟩) ns.length cap) ns.length ((xs.set (i * 3) (.int .i64 k)).set (i * 3 + 1) (.string s))) (hb1 : ∀ b, b < w.heap.size → b ≠ g → w1.heap[b]? = w.heap[b]?) (hg : w1.grownBy w2 kv.ownBlock) (hk : KidRow lo w2 kv ks) : NdR lo hi w2 (.slice (some ⟨g, 0, none⟩) ns.length cap) (ns.set i ⟨k, s, ks⟩) := by
  have hxl := h1.1
  have hne : ∀ j kv' b, j < ns.length → xs[j * 3 + 2]? = some kv' → kv'.ownBlock = some b → b ≠ g := by
    intro j kv' b hj hx hb
    obtain ⟨_, _, kv2, c, d, _⟩ := h2 j hj
    rw [c] at hx
    obtain rfl := Option.some.inj hx
    rcases d.2 with ⟨hn, _⟩ | ⟨g2, cap2, cur2, hn, _⟩
    · rw [hn] at hb; simp [Value.ownBlock] at hb
    · have hd : w.ownsRow lo 3 1 (.slice (some ⟨g2, 0, none⟩) ns[j].kids.length cap2) ns[j].kids.length (ns[j].kids.map (Value.int .i64)) := by rw [← hn]; exact d
      rw [hn] at hb
      simp [Value.ownBlock] at hb
      subst hb
      exact rows_ne hd h1 (by decide)
  have hgk : kv.ownBlock ≠ some g := fun e => hne i kv g hi0 hkv e rfl
  refine ⟨(xs.set (i * 3) (.int .i64 k)).set (i * 3 + 1) (.string s), ?_, fun b hb => by simp [Value.ownBlock] at hb; omega, fun j hj => ?_, ?_⟩
  · rw [List.length_set]
    exact World.ownsRow.kept ho hg (by
      rcases hob : kv.ownBlock with _ | b
      · exact .inr (by simp [Value.ownBlock])
      · exact .inr (by simp [Value.ownBlock]; intro e; exact hgk (by rw [hob, e])))
  · have hj' : j < ns.length := by simpa using hj
    by_cases e : j = i
    · subst e
      rw [List.getElem_set_self]
      refine ⟨?_, ?_, kv, ?_, hk, ?_⟩
      · rw [List.getElem?_set_ne (by omega), List.getElem?_set_self (by omega)]
      · rw [List.getElem?_set_self (by rw [List.length_set]; omega)]
      · rw [List.getElem?_set_ne (by omega), List.getElem?_set_ne (by omega)]; exact hkv
      · obtain ⟨_, _, kv2, c, d, f⟩ := h2 j hi0
        rw [c] at hkv
        obtain rfl := Option.some.inj hkv
        exact f
    · obtain ⟨a, b, kv2, c, d, f⟩ := h2 j hj'
      rw [List.getElem_set_ne (by omega)]
      refine ⟨?_, ?_, kv2, ?_, ?_, f⟩
      · rw [List.getElem?_set_ne (by omega), List.getElem?_set_ne (by omega)]; exact a
      · rw [List.getElem?_set_ne (by omega), List.getElem?_set_ne (by omega)]; exact b
      · rw [List.getElem?_set_ne (by omega), List.getElem?_set_ne (by omega)]; exact c
      · have d1 : KidRow lo w1 kv2 ns[j].kids := row_same d (fun q hq => hb1 q (World.ownsRow.lt d q hq).2 (hne j kv2 q hj' c hq))
        refine World.ownsRow.kept d1 hg ?_
        rcases hob : kv2.ownBlock with _ | b
        · exact .inl rfl
        · refine .inr (fun e2 => ?_)
          exact h3 j i hj' hi0 e kv2 kv b c hkv hob e2.symm
  · rw [List.length_set]
    intro p q hp hq hpq kv1 kv2 b c1 c2 e1 e2
    rw [List.getElem?_set_ne (by omega), List.getElem?_set_ne (by omega)] at c1 c2
    exact h3 p q hp hq hpq kv1 kv2 b c1 c2 e1 e2
end Go.Proofs.YtcagcfhnbphggaaGreatDoor
