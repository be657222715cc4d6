/- What the specification's l1Level answers: the level of a tree, in new memory. -/
import Derived.Test.YtjkkojefpecbfaaGreatNodes
import Derived.Test.YtjkkojefpecbfaaGreatStE
import Derived.Test.YtjkkojefpecbfaaGreatSpecL
import Derived.Laws.IdiomStrings
namespace Go.Proofs.YtjkkojefpecbfaaGreat
open Go.ChangeShapes Go.WideShapes Go.ChangeAt Go.RowKit

theorem KidRow.ints {base : Nat} {w : World} {kv : Value} {ks : List Int} (h : KidRow base w kv ks) : IntsAt w kv ks := by
  rcases h.2 with ⟨h1, h0⟩ | ⟨g, cap, cur, h1, _, hg, hnc, hcm, hcs, htake⟩
  · exact ⟨none, 0, by rw [h1, h0], by omega, by unfold maxLen; omega, fun h => by omega⟩
  · refine ⟨_, cap, h1, hnc, hcm, fun _ => ⟨g, 0, rfl, fun j hj => ?_⟩⟩
    have h3 : w.ownsRow base 3 1 (.slice (some ⟨g, 0, none⟩) ks.length cap) ks.length (ks.map (Value.int .i64)) := by rw [← h1]; exact h
    rw [Nat.zero_add, h3.cellAt j (by omega), List.getElem?_map, List.getElem?_eq_getElem hj]; rfl
theorem NdRow.nodes {base : Nat} {Q : Nat → Prop} {w : World} {g cap : Nat} {ns : List Nd} (h : NdRow base Q w g cap ns) : NodesAt w (.slice (some ⟨g, 0, none⟩) ns.length cap) ns := by
  obtain ⟨xs, h1, h2⟩ := h
  obtain ⟨hc1, hc2⟩ := ownsRow_cap h1
  refine ⟨_, cap, rfl, hc1, hc2, fun _ => ⟨g, 0, rfl, fun i hi => ?_⟩⟩
  obtain ⟨a, b, kv, c, d, _⟩ := h2 i hi
  rw [Nat.zero_add]
  exact ⟨by rw [h1.cellAt _ (by omega)]; exact a, by rw [h1.cellAt _ (by omega)]; exact b, kv, by rw [h1.cellAt _ (by omega)]; exact c, d.ints⟩
theorem NdRowA.set {base : Nat} {Q : Nat → Prop} {w : World} {g cap : Nat} {ns : List Nd} (h : NdRowA base Q w g cap ns) {p : Addr} (hp : g ≠ p.block) (ht : ∃ cs e, e ≠ 3 ∧ w.heap[p.block]? = some (.cells cs e (0, 0))) (u : Value) : NdRowA base Q (w.setCell p u) g cap ns := by
  obtain ⟨xs, h1, h2, h3⟩ := h
  refine ⟨xs, own_set h1 hp u, fun i hi => ?_, h3⟩
  obtain ⟨a, b, kv, c, d, q⟩ := h2 i hi
  exact ⟨a, b, kv, c, d.set ht u, q⟩

set_option maxRecDepth 20000 in
set_option maxHeartbeats 1000000 in
theorem l1LevelA_any (t : Tr) (p : Nat) (w : World) (ht : TreeAt w.heap.size w p t) (hc : t.cnt ≤ 1000) :
    Calls Tryz.prog 142 #[.pointer (some ⟨p, 0, none⟩)] w fun e w' => ∃ g cap, e = .returned (.agg #[.slice (some ⟨g, 0, none⟩) (t.flat 0).length cap]) ∧ NdRowA w.heap.size (fun _ => True) w' g cap (t.flat 0) ∧ Below w.heap.size w w' := by
  have hpl := ht.lt
  obtain ⟨W, hW⟩ : ∃ W, W = (w.alloc (.cells #[.slice none 0 0] 111)).alloc (.cells #[] 174) := ⟨_, rfl⟩
  have HB := hide (show Below w.heap.size w W by rw [hW]; exact bel_alloc (bel_alloc (Below.refl _ _) _) _)
  have hr := World.ownsRow_lit (base := w.heap.size) (e := 174) (size := 3) (w.alloc (.cells #[.slice none 0 0] 111)) #[] 0 (by simp) (by unfold maxLen; omega) rfl
  rw [← hW, World.size_alloc] at hr
  have HN : Hid (NdRowA w.heap.size (fun _ => True) W (w.heap.size + 1) 0 []) := ⟨_, hr, fun i h => by simp at h, fun i j h => by simp at h⟩
  have HT := hide (ht.keep HB.out)
  have hsW : W.heap.size = w.heap.size + 1 + 1 := by rw [hW]; simp
  have x0 : W.cell? ⟨w.heap.size, 0, none⟩ = some (.slice none 0 0) := by rw [hW]; simp [go_sem]
  have xf : W.frozen? ⟨w.heap.size, 0, none⟩ = false := by rw [hW]; simp [go_sem]
  have HXB := hide (show W.heap[w.heap.size]? = some (.cells #[.slice none 0 0] 111 (0, 0)) by rw [hW]; exact new_block w _ _ 0)
  have HS := hide hsW
  clear hr ht hsW
  go_enter Tryz.func142, Tryz.ntmps142
  go_wp2_with fail
  rw [← hW]
  clear hW
  have hcall := l1Nodes_any t p W (w.heap.size + 1) 0 [] w.heap.size (fun _ => True) HT.out HN.out (fun _ _ => trivial) (by have := HS.out; omega) (by simp; omega)
  simp only [List.length_nil, List.nil_append] at hcall
  refine hcall.mono ?_
  clear hcall
  rintro e w2 ⟨g2, cap2, rfl, hn2, hg2, hg2'⟩
  have hs := HS.out
  have x0 := (hg2.cell_far ⟨w.heap.size, 0, none⟩ (by show w.heap.size < _; omega) (by simp)).trans x0
  have xf := (hg2.frozen_far ⟨w.heap.size, 0, none⟩ (by show w.heap.size < _; omega) (by simp)).trans xf
  have HXB2 := hide ((hg2.block w.heap.size (by omega) (by simp)).trans HXB.out)
  have HB2 := hide (HB.out.trans ((Below.refl w.heap.size W).grown hg2 (by omega) (fun q hq => by simp at hq; omega)))
  have HN2 := hide (hn2.set (p := ⟨w.heap.size, 0, none⟩) (by show g2 ≠ w.heap.size; omega) ⟨_, 111, by decide, HXB2.out⟩ (.slice (some ⟨g2, 0, none⟩) (t.flat 0).length cap2))
  clear hn2 hg2 hs
  go_wp2_with fail
  refine bodyPost_ret (v := .agg #[.slice (some ⟨g2, 0, none⟩) (t.flat 0).length cap2]) (by simp [results, go_sem, x0]) rfl ⟨g2, cap2, rfl, HN2.out, HB2.out.setCell (p := ⟨_, _, _⟩) (Nat.le_refl _) _⟩
end Go.Proofs.YtjkkojefpecbfaaGreat

/- Rows of the call's own: of numbers and of nodes of levels. -/
namespace Go.Proofs.YtjkkojefpecbfaaGreat
open Go.ChangeShapes Go.WideShapes Go.ChangeAt Go.RowKit

/-- A row of nodes of the call's own, maybe none, the kids apart. -/
def NdW (base : Nat) (w : World) (v : Value) (ns : List Nd) : Prop :=
  ∃ xs, w.ownsRow base 174 3 v ns.length xs ∧ (∀ i (h : i < ns.length), xs[i * 3]? = some (.int .i64 ns[i].k) ∧ xs[i * 3 + 1]? = some (.string ns[i].s) ∧ ∃ kv, xs[i * 3 + 2]? = some kv ∧ KidRow base w kv ns[i].kids) ∧ Apart xs ns.length
theorem KidRow.mono {b b' : Nat} {w : World} {kv : Value} {ks : List Int} (h : KidRow b w kv ks) (hb : b' ≤ b) : KidRow b' w kv ks := by
  refine ⟨h.1, ?_⟩
  rcases h.2 with h1 | ⟨g, cap, cur, h1, h2, h3⟩
  · exact .inl h1
  · exact .inr ⟨g, cap, cur, h1, Nat.le_trans hb h2, h3⟩
theorem NdW.mono {b b' : Nat} {w : World} {v : Value} {ns : List Nd} (h : NdW b w v ns) (hb : b' ≤ b) : NdW b' w v ns := by
  obtain ⟨xs, h1, h2, h3⟩ := h
  refine ⟨xs, ⟨h1.1, ?_⟩, fun i hi => ?_, h3⟩
  · rcases h1.2 with h1 | ⟨g, cap, cur, h1, h2, h3⟩
    · exact .inl h1
    · exact .inr ⟨g, cap, cur, h1, Nat.le_trans hb h2, h3⟩
  · obtain ⟨a, b, kv, c, d⟩ := h2 i hi
    exact ⟨a, b, kv, c, d.mono hb⟩
end Go.Proofs.YtjkkojefpecbfaaGreat

/- What markText answers: a text of the number alone. -/
namespace Go.Proofs.YtjkkojefpecbfaaGreat
open Go.ChangeShapes Go.WideShapes Go.ChangeAt Go.RowKit

/-- A number's digits ahead of a text. -/
def mtD (q : Nat) (out : ByteArray) : ByteArray := if _h : q = 0 then out else mtD (q / 10) (⟨#[UInt8.ofNat (48 + q % 10)]⟩ ++ out)
termination_by q
decreasing_by omega
def mt (k : Nat) : ByteArray := if k = 0 then ⟨#[109, 48]⟩ else ⟨#[109]⟩ ++ mtD k ⟨#[]⟩
theorem mtD_step {q : Nat} (h : q ≠ 0) (out : ByteArray) : mtD q out = mtD (q / 10) (⟨#[UInt8.ofNat (48 + q % 10)]⟩ ++ out) := by
  rw [mtD, dif_neg h]
theorem mtD_zero (out : ByteArray) : mtD 0 out = out := by rw [mtD, dif_pos rfl]
theorem conv_one (W : World) (b q : Nat) (c : W.cell? ⟨b, 0, none⟩ = some (.int .u8 (48 + (q : Int) % 10))) : (convert 62 9 (.slice (some ⟨b, 0, none⟩) 1 1)).run Tryz.prog W = .ok (.string ⟨#[UInt8.ofNat (48 + q % 10)]⟩) W := by
  have hn : (UInt8.ofNat (48 + q % 10)).toNat = 48 + q % 10 := by simp; omega
  exact run_convert_bytes_back (P := Tryz.prog) W 62 9 5 ⟨b, 0, none⟩ 1 [UInt8.ofNat (48 + q % 10)] Tryz.underlying62 Tryz.underlying5 Tryz.underlying9 (fun j hj => by
    have h0 : j = 0 := by simp at hj; omega
    subst h0
    simp only [List.getElem_cons_zero, hn]
    have : (Addr.add ⟨b, 0, none⟩ 0) = ⟨b, 0, none⟩ := rfl
    rw [this, c]
    simp)
set_option maxRecDepth 20000 in
set_option maxHeartbeats 2000000 in
theorem markText_any (k : Nat) (w : World) (hk : 1 ≤ k) (hk2 : k ≤ 1000000000) :
    Calls Tryz.prog 75 #[.int .i64 k] w fun e w' => e = .returned (.string (mt k)) ∧ Below w.heap.size w w' := by
  have HM : Hid (mt k = ⟨#[109]⟩ ++ mtD k ⟨#[]⟩) := by show _ = _; unfold mt; rw [if_neg (by omega)]
  have d0 : decide ((k : Int) ≤ 0) = false := by simp; omega
  go_enter Tryz.func75, Tryz.ntmps75
  go_wp2_with fail
  go_loopw [0, 3] (fun i o wr => ∃ (q : Nat) (out : ByteArray), out.size + q ≤ 1000000000 ∧ i = .int .i64 q ∧ o = .string out ∧ Hid (mtD q out = mtD k ⟨#[]⟩) ∧ Hid (Below w.heap.size w wr)) (fun i _ _ => (intOf i).toNat)
  case atStart => exact ⟨k, ⟨#[]⟩, by show 0 + k ≤ _; omega, rfl, rfl, rfl, Below.refl _ _⟩
  case round =>
    obtain ⟨q, out, hq, rfl, rfl, HX, HB⟩ := hrel
    have hz1 : ∀ d : UInt8, (⟨#[d]⟩ : ByteArray).size = 1 := fun _ => rfl
    by_cases h0 : q = 0
    · subst h0
      have HR : Hid (⟨#[109]⟩ ++ out = mt k) := by show _ = _; rw [HM.out, ← HX.out, mtD_zero]
      have hsz : (⟨#[109]⟩ : ByteArray).size + out.size ≤ 9223372036854775807 := by rw [hz1]; omega
      go_wp2_with fail
      go_ret
      exact ⟨congrArg (fun s => Ending.returned (.string s)) HR.out, HB.out⟩
    · have hq0 : (0 : Int) < q := by omega
      obtain ⟨d, hd⟩ : ∃ d, d = UInt8.ofNat (48 + q % 10) := ⟨_, rfl⟩
      have HY := hide (HX.out.symm.trans (mtD_step h0 out))
      have hcv := conv_one (wr.alloc (.cells #[.int .u8 (48 + (q : Int) % 10)] 5)) wr.heap.size q (by simp [go_sem])
      rw [← hd] at HY hcv
      have hsz : (⟨#[d]⟩ : ByteArray).size + out.size ≤ 9223372036854775807 := by rw [hz1]; omega
      have hsz2 := ByteArray.size_append (a := ⟨#[d]⟩) (b := out)
      rw [hz1] at hsz2
      have HS2 := hide hsz2
      clear HX hd hsz2
      go_wp2_with fail
      go_roundw
      case rel => exact ⟨q / 10, ⟨#[d]⟩ ++ out, by rw [HS2.out]; omega, by simp, rfl, hide HY.out.symm, hide (bel_alloc HB.out _)⟩
      case measure => simp [intOf]; omega
end Go.Proofs.YtjkkojefpecbfaaGreat

/- What changes a range of blocks alone; what markIntS and heldIntS answer. -/
namespace Go.Proofs.YtjkkojefpecbfaaGreat
open Go.ChangeShapes Go.WideShapes Go.ChangeAt Go.RowKit

/-- Of what was there only blocks from lo up to hi are changed. -/
def Chg (lo hi : Nat) (w w' : World) : Prop := Below lo w w' ∧ ∀ b, hi ≤ b → b < w.heap.size → w'.heap[b]? = w.heap[b]?
theorem Chg.refl (lo hi : Nat) (w : World) : Chg lo hi w w := ⟨Below.refl _ _, fun _ _ _ => rfl⟩
theorem Chg.trans {lo hi : Nat} {w w1 w2 : World} (h : Chg lo hi w w1) (h2 : Chg lo hi w1 w2) : Chg lo hi w w2 :=
  ⟨h.1.trans h2.1, fun b hb hl => (h2.2 b hb (by have := h.1.size; omega)).trans (h.2 b hb hl)⟩
theorem Chg.of {lo hi : Nat} {w w1 : World} (h : Below w.heap.size w w1) (hl : lo ≤ w.heap.size) : Chg lo hi w w1 := ⟨h.mono hl, fun b _ hb => h.block b hb⟩
theorem Chg.set {lo hi : Nat} (w : World) {p : Addr} (h1 : lo ≤ p.block) (h2 : p.block < hi) (u : Value) : Chg lo hi w (w.setCell p u) :=
  ⟨(Below.refl lo w).setCell h1 u, fun b hb _ => Below.heap_setCell w p u b (by omega)⟩
theorem Chg.grown {lo hi : Nat} {w w1 : World} {r : Option Nat} (hg : w.grownBy w1 r) (hr : ∀ b, r = some b → lo ≤ b ∧ b < hi) (hl : lo ≤ w.heap.size) : Chg lo hi w w1 :=
  ⟨(Below.refl lo w).grown hg hl (fun k hk => (hr k hk).1), fun b hb hlt => hg.block b hlt (fun e => by have := (hr b e.symm).2; omega)⟩
theorem Chg.mono {lo hi lo' hi' : Nat} {w w1 : World} (h : Chg lo hi w w1) (h1 : lo' ≤ lo) (h2 : hi ≤ hi') : Chg lo' hi' w w1 := ⟨h.1.mono h1, fun b hb hl => h.2 b (by omega) hl⟩
/-- A block outside the range is as before. -/
theorem Chg.out {lo hi : Nat} {w w1 : World} (h : Chg lo hi w w1) {b : Nat} (hb : b < lo ∨ hi ≤ b) (hl : b < w.heap.size) : w1.heap[b]? = w.heap[b]? := by
  rcases hb with h1 | h1
  · exact h.1.block b h1
  · exact h.2 b h1 hl
theorem row_same {w w' : World} {base : Nat} {e : TypeId} {s : Nat} {v : Value} {n : Nat} {xs : List Value} (h : w.ownsRow base e s v n xs) (hh : ∀ g, v.ownBlock = some g → w'.heap[g]? = w.heap[g]?) : w'.ownsRow base e s v n xs := by
  refine ⟨h.1, ?_⟩
  rcases h.2 with h1 | ⟨g, cap, cur, h1, h2, h3, h4⟩
  · exact .inl h1
  · exact .inr ⟨g, cap, cur, h1, h2, by rw [hh g (by rw [h1]; rfl)]; exact h3, h4⟩
/-- Numbers from k on. -/
def nums (k n : Nat) : List Int := (List.range n).map (fun j => ((k + j : Nat) : Int))
theorem nums_len (k n : Nat) : (nums k n).length = n := by simp [nums]
theorem nums_get (k n j : Nat) (h : j < n) : (nums k n)[j]'(by rw [nums_len]; exact h) = ((k + j : Nat) : Int) := by simp [nums]
set_option maxRecDepth 20000 in
set_option maxHeartbeats 2000000 in
theorem markIntS_any (lo : Nat) (v : Value) (ks : List Int) (k : Nat) (w : World) (h : KidRow lo w v ks) (hl : ks.length ≤ 1048576) (hk : k ≤ 100000000) :
    Calls Tryz.prog 105 #[v, .int .i64 k] w fun e w' => e = .returned (.int .i64 ((k + ks.length : Nat) : Int)) ∧ KidRow lo w' v (nums k ks.length) ∧ w.grownBy w' v.ownBlock := by
  by_cases h0 : ks.length = 0
  · have hks : ks = [] := List.eq_nil_of_length_eq_zero h0
    subst hks
    have HH := hide (show KidRow lo w v (nums k ([] : List Int).length) from h)
    obtain ⟨a, cap, rfl⟩ := row_form h
    clear h
    go_enter Tryz.func105, Tryz.ntmps105
    go_wp2_with fail
    go_loopw [1, 5] (fun m i wr => m = .int .i64 k ∧ i = .int .i64 0 ∧ w = wr) (fun _ _ _ => 0)
    case atStart => exact ⟨rfl, rfl, rfl⟩
    case round =>
      obtain ⟨rfl, rfl, rfl⟩ := hrel
      go_wp2_with fail
      go_ret
      exact ⟨by simp, HH.out, ⟨rfl, rfl, rfl, Nat.le_refl _, fun _ _ _ => rfl⟩⟩
  · obtain ⟨g, cap, hv⟩ : ∃ g cap, v = .slice (some ⟨g, 0, none⟩) ks.length cap := by
      rcases h.2 with ⟨_, h1⟩ | ⟨g, cap, _, h1, _⟩
      · omega
      · exact ⟨g, cap, h1⟩
    subst hv
    have hown : w.ownsRow lo 3 1 (.slice (some ⟨g, 0, none⟩) ks.length cap) ks.length (ks.map (Value.int .i64)) := h
    have HO := hide hown
    clear h
    go_enter Tryz.func105, Tryz.ntmps105
    go_wp2_with fail
    go_loopw [1, 5] (fun m i wr => ∃ (j : Nat) (xs : List Value), j ≤ ks.length ∧ i = .int .i64 j ∧ m = .int .i64 ((k + j : Nat) : Int) ∧ wr.ownsRow lo 3 1 (.slice (some ⟨g, 0, none⟩) ks.length cap) ks.length xs ∧ Hid (∀ q, q < j → xs[q]? = some (.int .i64 ((k + q : Nat) : Int))) ∧ Hid (w.grownBy wr (some g))) (fun _ i _ => ks.length - (intOf i).toNat)
    case atStart => exact ⟨0, _, by omega, rfl, rfl, HO.out, fun q h => by omega, ⟨rfl, rfl, rfl, Nat.le_refl _, fun _ _ _ => rfl⟩⟩
    case round =>
      obtain ⟨j, xs, hj, rfl, rfl, hownr, HX, HG⟩ := hrel
      clear HO hown
      by_cases hlt : j < ks.length
      · have hlt' : (j : Int) < ks.length := by omega
        have hst := (hownr.stored j (.int .i64 ((k + j : Nat) : Int))).1
        have HST := hide hst
        have hfz := hownr.frozenAt j
        have hce := hownr.cellAt j (by omega)
        have hxl := hownr.1
        rw [List.getElem?_eq_getElem (by omega)] at hce
        have HX2 : Hid (∀ q, q < j + 1 → (xs.set j (.int .i64 ((k + j : Nat) : Int)))[q]? = some (.int .i64 ((k + q : Nat) : Int))) := by
          show ∀ q, _
          intro q hq
          by_cases e : j = q
          · subst e; rw [List.getElem?_set_self (by omega)]
          · rw [List.getElem?_set_ne e]; exact HX.out q (by omega)
        have HG2 := hide (HG.out.trans (grown_set wr ⟨g, j, none⟩ (.int .i64 ((k + j : Nat) : Int))))
        obtain ⟨K, hK⟩ : ∃ K, K = k + j := ⟨_, rfl⟩
        have HKE := hide hK
        rw [← hK] at HST HX2 HG2 ⊢
        have hK2 : K ≤ 200000000 := by omega
        clear hst HX HG hK hownr
        go_wp2_with fail
        go_roundw
        case rel => exact ⟨j + 1, _, by omega, by go_num, by have := HKE.out; rw [show k + (j + 1) = K + 1 by omega]; go_num, HST.out, HX2, HG2⟩
        case measure => simp [intOf]; omega
      · have hjk : j = ks.length := by omega
        subst hjk
        have hxs : xs = (nums k ks.length).map (Value.int .i64) := by
          refine List.ext_getElem? fun q => ?_
          by_cases hq : q < ks.length
          · rw [HX.out q hq, List.getElem?_map, List.getElem?_eq_getElem (by rw [nums_len]; exact hq), nums_get k _ q hq]; rfl
          · have h1 := hownr.1
            rw [List.getElem?_eq_none (by omega), List.getElem?_eq_none (by rw [List.length_map, nums_len]; omega)]
        have HK : Hid (KidRow lo wr (.slice (some ⟨g, 0, none⟩) ks.length cap) (nums k ks.length)) := by
          show _
          unfold KidRow
          rw [nums_len, ← hxs]
          exact hownr
        clear hownr hxs HX
        go_wp2_with fail
        go_ret
        exact ⟨rfl, HK.out, HG.out⟩
set_option maxRecDepth 20000 in
set_option maxHeartbeats 2000000 in
theorem heldIntS_any (v : Value) (n k : Nat) (w : World) (h : IntsAt w v (nums k n)) (hl : n ≤ 1048576) (hk : k ≤ 100000000) :
    Calls Tryz.prog 107 #[v, .int .i64 k] w fun e w' => e = .returned (.int .i64 ((k + n : Nat) : Int)) ∧ w' = w := by
  obtain ⟨a, cap, rfl, h1, h2, hc⟩ := h
  rw [nums_len] at h1 ⊢
  have HC := hide hc
  unfold maxLen at h2
  clear hc
  go_enter Tryz.func107, Tryz.ntmps107
  go_wp2_with fail
  go_loopw [1, 5] (fun m i wr => ∃ (j : Nat), j ≤ n ∧ i = .int .i64 j ∧ m = .int .i64 ((k + j : Nat) : Int) ∧ w = wr) (fun _ i _ => n - (intOf i).toNat)
  case atStart => exact ⟨0, by omega, rfl, rfl, rfl⟩
  case round =>
    obtain ⟨j, hj, rfl, rfl, rfl⟩ := hrel
    by_cases hlt : j < n
    · obtain ⟨b, off, rfl, hcell⟩ := HC.out (by rw [nums_len]; omega)
      have hc := hcell j (by rw [nums_len]; exact hlt)
      rw [nums_get k n j hlt] at hc
      have hlt' : (j : Int) < n := by omega
      obtain ⟨K, hK⟩ : ∃ K, K = k + j := ⟨_, rfl⟩
      have HKE := hide hK
      rw [← hK] at hc ⊢
      have hK2 : K ≤ 200000000 := by omega
      have hself : ((K : Int) != (K : Int)) = false := by simp
      clear hcell hK
      go_wp2_with fail
      go_roundw
      case rel => exact ⟨j + 1, by omega, by go_num, by have := HKE.out; rw [show k + (j + 1) = K + 1 by omega]; go_num, by first | rfl | trivial⟩
      case measure => simp [intOf]; omega
    · have hjn : j = n := by omega
      subst hjn
      go_wp2_with fail
      go_ret
      exact ⟨rfl, rfl⟩
end Go.Proofs.YtjkkojefpecbfaaGreat
