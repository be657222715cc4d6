/- What the specification's l1Nodes answers: the nodes of a tree behind others. -/
import Derived.Test.YtpmpooekpeocdaaGreatStD
import Derived.Test.YtpmpooekpeocdaaGreatSpec
import Derived.Test.YtpmpooekpeocdaaGreatTQ
import Derived.LaidEqlPtr
import Derived.Deep.CutRange
import Derived.Test.YtpmpooekpeocdaaGreatSpecL
import Derived.Laws.IdiomStrings
import Derived.Deep.RegionWith
import Derived.Deep.RegionHeld3
namespace Go.Proofs.YtpmpooekpeocdaaGreat
open Go.ChangeShapes Go.WideShapes Go.ChangeAt Go.RowKit

/-- A row of numbers of the call's own, nothing among them. -/
def KidRow (base : Nat) (w : World) (kv : Value) (ks : List Int) : Prop := w.ownsRow base 3 1 kv ks.length (ks.map (Value.int .i64))
/-- A row of nodes of the call's own. -/
def NdRow (base : Nat) (Q : Nat → Prop) (w : World) (g cap : Nat) (ns : List Nd) : Prop :=
  ∃ xs, w.ownsRow base 243 3 (.slice (some ⟨g, 0, none⟩) ns.length cap) ns.length xs ∧ ∀ i (h : i < ns.length), xs[i * 3]? = some (.int .i64 ns[i].k) ∧ xs[i * 3 + 1]? = some (.string ns[i].s) ∧ ∃ kv, xs[i * 3 + 2]? = some kv ∧ KidRow base w kv ns[i].kids ∧ ∀ b, kv.ownBlock = some b → Q b
theorem KidRow.keep {base : Nat} {w w' : World} {kv : Value} {ks : List Int} (h : KidRow base w kv ks) (hb : Below w.heap.size w w') : KidRow base w' kv ks := row_keep hb h
/-- The kids of different nodes lie in different blocks. -/
def Apart (xs : List Value) (n : Nat) : Prop := ∀ i j, i < n → j < n → i ≠ j → ∀ kv kv' b, xs[i * 3 + 2]? = some kv → xs[j * 3 + 2]? = some kv' → kv.ownBlock = some b → kv'.ownBlock = some b → False
theorem own_set {base : Nat} {w : World} {e : TypeId} {s : Nat} {g n cap : Nat} {xs : List Value} (h : w.ownsRow base e s (.slice (some ⟨g, 0, none⟩) n cap) n xs) {p : Addr} (hp : g ≠ p.block) (u : Value) : (w.setCell p u).ownsRow base e s (.slice (some ⟨g, 0, none⟩) n cap) n xs :=
  World.ownsRow.kept h (grown_set w p u) (.inr (by simp [Value.ownBlock]; exact hp))
end Go.Proofs.YtpmpooekpeocdaaGreat

/- What the specification's l1Level answers: the level of a tree, in new memory. -/
namespace Go.Proofs.YtpmpooekpeocdaaGreat
open Go.ChangeShapes Go.WideShapes Go.ChangeAt Go.RowKit

theorem KidRow.ints {base : Nat} {w : World} {kv : Value} {ks : List Int} (h : KidRow base w kv ks) : IntsAt w kv ks := by
  rcases h.2 with ⟨h1, h0⟩ | ⟨g, cap, cur, h1, _, hg, hnc, hcm, hcs, htake⟩
  · exact ⟨none, 0, by rw [h1, h0], by omega, by unfold maxLen; omega, fun h => by omega⟩
  · refine ⟨_, cap, h1, hnc, hcm, fun _ => ⟨g, 0, rfl, fun j hj => ?_⟩⟩
    have h3 : w.ownsRow base 3 1 (.slice (some ⟨g, 0, none⟩) ks.length cap) ks.length (ks.map (Value.int .i64)) := by rw [← h1]; exact h
    rw [Nat.zero_add, h3.cellAt j (by omega), List.getElem?_map, List.getElem?_eq_getElem hj]; rfl
theorem NdRow.nodes {base : Nat} {Q : Nat → Prop} {w : World} {g cap : Nat} {ns : List Nd} (h : NdRow base Q w g cap ns) : NodesAt w (.slice (some ⟨g, 0, none⟩) ns.length cap) ns := by
  obtain ⟨xs, h1, h2⟩ := h
  obtain ⟨hc1, hc2⟩ := ownsRow_cap h1
  refine ⟨_, cap, rfl, hc1, hc2, fun _ => ⟨g, 0, rfl, fun i hi => ?_⟩⟩
  obtain ⟨a, b, kv, c, d, _⟩ := h2 i hi
  rw [Nat.zero_add]
  exact ⟨by rw [h1.cellAt _ (by omega)]; exact a, by rw [h1.cellAt _ (by omega)]; exact b, kv, by rw [h1.cellAt _ (by omega)]; exact c, d.ints⟩
end Go.Proofs.YtpmpooekpeocdaaGreat

/- Rows of the call's own: of numbers and of nodes of levels. -/
namespace Go.Proofs.YtpmpooekpeocdaaGreat
open Go.ChangeShapes Go.WideShapes Go.ChangeAt Go.RowKit

/-- A row of nodes of the call's own, maybe none, the kids apart. -/
def NdW (base : Nat) (w : World) (v : Value) (ns : List Nd) : Prop :=
  ∃ xs, w.ownsRow base 243 3 v ns.length xs ∧ (∀ i (h : i < ns.length), xs[i * 3]? = some (.int .i64 ns[i].k) ∧ xs[i * 3 + 1]? = some (.string ns[i].s) ∧ ∃ kv, xs[i * 3 + 2]? = some kv ∧ KidRow base w kv ns[i].kids) ∧ Apart xs ns.length
theorem KidRow.mono {b b' : Nat} {w : World} {kv : Value} {ks : List Int} (h : KidRow b w kv ks) (hb : b' ≤ b) : KidRow b' w kv ks := by
  refine ⟨h.1, ?_⟩
  rcases h.2 with h1 | ⟨g, cap, cur, h1, h2, h3⟩
  · exact .inl h1
  · exact .inr ⟨g, cap, cur, h1, Nat.le_trans hb h2, h3⟩
theorem NdW.mono {b b' : Nat} {w : World} {v : Value} {ns : List Nd} (h : NdW b w v ns) (hb : b' ≤ b) : NdW b' w v ns := by
  obtain ⟨xs, h1, h2, h3⟩ := h
  refine ⟨xs, ⟨h1.1, ?_⟩, fun i hi => ?_, h3⟩
  · rcases h1.2 with h1 | ⟨g, cap, cur, h1, h2, h3⟩
    · exact .inl h1
    · exact .inr ⟨g, cap, cur, h1, Nat.le_trans hb h2, h3⟩
  · obtain ⟨a, b, kv, c, d⟩ := h2 i hi
    exact ⟨a, b, kv, c, d.mono hb⟩
end Go.Proofs.YtpmpooekpeocdaaGreat

/- What markText answers: a text of the number alone. -/
namespace Go.Proofs.YtpmpooekpeocdaaGreat
open Go.ChangeShapes Go.WideShapes Go.ChangeAt Go.RowKit

/-- A number's digits ahead of a text. -/
def mtD (q : Nat) (out : ByteArray) : ByteArray := if _h : q = 0 then out else mtD (q / 10) (⟨#[UInt8.ofNat (48 + q % 10)]⟩ ++ out)
termination_by q
decreasing_by omega
def mt (k : Nat) : ByteArray := if k = 0 then ⟨#[109, 48]⟩ else ⟨#[109]⟩ ++ mtD k ⟨#[]⟩
theorem mtD_step {q : Nat} (h : q ≠ 0) (out : ByteArray) : mtD q out = mtD (q / 10) (⟨#[UInt8.ofNat (48 + q % 10)]⟩ ++ out) := by
  rw [mtD, dif_neg h]
theorem mtD_zero (out : ByteArray) : mtD 0 out = out := by rw [mtD, dif_pos rfl]
theorem conv_one (W : World) (b q : Nat) (c : W.cell? ⟨b, 0, none⟩ = some (.int .u8 (48 + (q : Int) % 10))) : (convert 148 9 (.slice (some ⟨b, 0, none⟩) 1 1)).run Tryz.prog W = .ok (.string ⟨#[UInt8.ofNat (48 + q % 10)]⟩) W := by
  have hn : (UInt8.ofNat (48 + q % 10)).toNat = 48 + q % 10 := by simp; omega
  exact run_convert_bytes_back (P := Tryz.prog) W 148 9 5 ⟨b, 0, none⟩ 1 [UInt8.ofNat (48 + q % 10)] Tryz.underlying148 Tryz.underlying5 Tryz.underlying9 (fun j hj => by
    have h0 : j = 0 := by simp at hj; omega
    subst h0
    simp only [List.getElem_cons_zero, hn]
    have : (Addr.add ⟨b, 0, none⟩ 0) = ⟨b, 0, none⟩ := rfl
    rw [this, c]
    simp)
set_option maxRecDepth 20000 in
set_option maxHeartbeats 2000000 in
theorem markText_any (k : Nat) (w : World) (hk : 1 ≤ k) (hk2 : k ≤ 1000000000) :
    Calls Tryz.prog 50 #[.int .i64 k] w fun e w' => e = .returned (.string (mt k)) ∧ Below w.heap.size w w' := by
  have HM : Hid (mt k = ⟨#[109]⟩ ++ mtD k ⟨#[]⟩) := by show _ = _; unfold mt; rw [if_neg (by omega)]
  have d0 : decide ((k : Int) ≤ 0) = false := by simp; omega
  go_enter Tryz.func50, Tryz.ntmps50
  go_wp2_with fail
  go_loopw [0, 3] (fun i o wr => ∃ (q : Nat) (out : ByteArray), out.size + q ≤ 1000000000 ∧ i = .int .i64 q ∧ o = .string out ∧ Hid (mtD q out = mtD k ⟨#[]⟩) ∧ Hid (Below w.heap.size w wr)) (fun i _ _ => (intOf i).toNat)
  case atStart => exact ⟨k, ⟨#[]⟩, by show 0 + k ≤ _; omega, rfl, rfl, rfl, Below.refl _ _⟩
  case round =>
    obtain ⟨q, out, hq, rfl, rfl, HX, HB⟩ := hrel
    have hz1 : ∀ d : UInt8, (⟨#[d]⟩ : ByteArray).size = 1 := fun _ => rfl
    by_cases h0 : q = 0
    · subst h0
      have HR : Hid (⟨#[109]⟩ ++ out = mt k) := by show _ = _; rw [HM.out, ← HX.out, mtD_zero]
      have hsz : (⟨#[109]⟩ : ByteArray).size + out.size ≤ 9223372036854775807 := by rw [hz1]; omega
      go_wp2_with fail
      go_ret
      exact ⟨congrArg (fun s => Ending.returned (.string s)) HR.out, HB.out⟩
    · have hq0 : (0 : Int) < q := by omega
      obtain ⟨d, hd⟩ : ∃ d, d = UInt8.ofNat (48 + q % 10) := ⟨_, rfl⟩
      have HY := hide (HX.out.symm.trans (mtD_step h0 out))
      have hcv := conv_one (wr.alloc (.cells #[.int .u8 (48 + (q : Int) % 10)] 5)) wr.heap.size q (by simp [go_sem])
      rw [← hd] at HY hcv
      have hsz : (⟨#[d]⟩ : ByteArray).size + out.size ≤ 9223372036854775807 := by rw [hz1]; omega
      have hsz2 := ByteArray.size_append (a := ⟨#[d]⟩) (b := out)
      rw [hz1] at hsz2
      have HS2 := hide hsz2
      clear HX hd hsz2
      go_wp2_with fail
      go_roundw
      case rel => exact ⟨q / 10, ⟨#[d]⟩ ++ out, by rw [HS2.out]; omega, by simp, rfl, hide HY.out.symm, hide (bel_alloc HB.out _)⟩
      case measure => simp [intOf]; omega
end Go.Proofs.YtpmpooekpeocdaaGreat

/- What changes a range of blocks alone; what markIntS and heldIntS answer. -/
namespace Go.Proofs.YtpmpooekpeocdaaGreat
open Go.ChangeShapes Go.WideShapes Go.ChangeAt Go.RowKit

/-- Of what was there only blocks from lo up to hi are changed. -/
def Chg (lo hi : Nat) (w w' : World) : Prop := Below lo w w' ∧ ∀ b, hi ≤ b → b < w.heap.size → w'.heap[b]? = w.heap[b]?
theorem Chg.refl (lo hi : Nat) (w : World) : Chg lo hi w w := ⟨Below.refl _ _, fun _ _ _ => rfl⟩
theorem Chg.trans {lo hi : Nat} {w w1 w2 : World} (h : Chg lo hi w w1) (h2 : Chg lo hi w1 w2) : Chg lo hi w w2 :=
  ⟨h.1.trans h2.1, fun b hb hl => (h2.2 b hb (by have := h.1.size; omega)).trans (h.2 b hb hl)⟩
theorem Chg.of {lo hi : Nat} {w w1 : World} (h : Below w.heap.size w w1) (hl : lo ≤ w.heap.size) : Chg lo hi w w1 := ⟨h.mono hl, fun b _ hb => h.block b hb⟩
theorem Chg.set {lo hi : Nat} (w : World) {p : Addr} (h1 : lo ≤ p.block) (h2 : p.block < hi) (u : Value) : Chg lo hi w (w.setCell p u) :=
  ⟨(Below.refl lo w).setCell h1 u, fun b hb _ => Below.heap_setCell w p u b (by omega)⟩
theorem Chg.grown {lo hi : Nat} {w w1 : World} {r : Option Nat} (hg : w.grownBy w1 r) (hr : ∀ b, r = some b → lo ≤ b ∧ b < hi) (hl : lo ≤ w.heap.size) : Chg lo hi w w1 :=
  ⟨(Below.refl lo w).grown hg hl (fun k hk => (hr k hk).1), fun b hb hlt => hg.block b hlt (fun e => by have := (hr b e.symm).2; omega)⟩
theorem Chg.mono {lo hi lo' hi' : Nat} {w w1 : World} (h : Chg lo hi w w1) (h1 : lo' ≤ lo) (h2 : hi ≤ hi') : Chg lo' hi' w w1 := ⟨h.1.mono h1, fun b hb hl => h.2 b (by omega) hl⟩
/-- A block outside the range is as before. -/
theorem Chg.out {lo hi : Nat} {w w1 : World} (h : Chg lo hi w w1) {b : Nat} (hb : b < lo ∨ hi ≤ b) (hl : b < w.heap.size) : w1.heap[b]? = w.heap[b]? := by
  rcases hb with h1 | h1
  · exact h.1.block b h1
  · exact h.2 b h1 hl
theorem row_same {w w' : World} {base : Nat} {e : TypeId} {s : Nat} {v : Value} {n : Nat} {xs : List Value} (h : w.ownsRow base e s v n xs) (hh : ∀ g, v.ownBlock = some g → w'.heap[g]? = w.heap[g]?) : w'.ownsRow base e s v n xs := by
  refine ⟨h.1, ?_⟩
  rcases h.2 with h1 | ⟨g, cap, cur, h1, h2, h3, h4⟩
  · exact .inl h1
  · exact .inr ⟨g, cap, cur, h1, h2, by rw [hh g (by rw [h1]; rfl)]; exact h3, h4⟩
/-- Numbers from k on. -/
def nums (k n : Nat) : List Int := (List.range n).map (fun j => ((k + j : Nat) : Int))
theorem nums_len (k n : Nat) : (nums k n).length = n := by simp [nums]
theorem nums_get (k n j : Nat) (h : j < n) : (nums k n)[j]'(by rw [nums_len]; exact h) = ((k + j : Nat) : Int) := by simp [nums]
set_option maxRecDepth 20000 in
set_option maxHeartbeats 2000000 in
theorem markIntS_any (lo : Nat) (v : Value) (ks : List Int) (k : Nat) (w : World) (h : KidRow lo w v ks) (hl : ks.length ≤ 1048576) (hk : k ≤ 100000000) :
    Calls Tryz.prog 99 #[v, .int .i64 k] w fun e w' => e = .returned (.int .i64 ((k + ks.length : Nat) : Int)) ∧ KidRow lo w' v (nums k ks.length) ∧ w.grownBy w' v.ownBlock := by
  by_cases h0 : ks.length = 0
  · have hks : ks = [] := List.eq_nil_of_length_eq_zero h0
    subst hks
    have HH := hide (show KidRow lo w v (nums k ([] : List Int).length) from h)
    obtain ⟨a, cap, rfl⟩ := row_form h
    clear h
    go_enter Tryz.func99, Tryz.ntmps99
    go_wp2_with fail
    go_loopw [1, 5] (fun m i wr => m = .int .i64 k ∧ i = .int .i64 0 ∧ w = wr) (fun _ _ _ => 0)
    case atStart => exact ⟨rfl, rfl, rfl⟩
    case round =>
      obtain ⟨rfl, rfl, rfl⟩ := hrel
      go_wp2_with fail
      go_ret
      exact ⟨by simp, HH.out, ⟨rfl, rfl, rfl, Nat.le_refl _, fun _ _ _ => rfl⟩⟩
  · obtain ⟨g, cap, hv⟩ : ∃ g cap, v = .slice (some ⟨g, 0, none⟩) ks.length cap := by
      rcases h.2 with ⟨_, h1⟩ | ⟨g, cap, _, h1, _⟩
      · omega
      · exact ⟨g, cap, h1⟩
    subst hv
    have hown : w.ownsRow lo 3 1 (.slice (some ⟨g, 0, none⟩) ks.length cap) ks.length (ks.map (Value.int .i64)) := h
    have HO := hide hown
    clear h
    go_enter Tryz.func99, Tryz.ntmps99
    go_wp2_with fail
    go_loopw [1, 5] (fun m i wr => ∃ (j : Nat) (xs : List Value), j ≤ ks.length ∧ i = .int .i64 j ∧ m = .int .i64 ((k + j : Nat) : Int) ∧ wr.ownsRow lo 3 1 (.slice (some ⟨g, 0, none⟩) ks.length cap) ks.length xs ∧ Hid (∀ q, q < j → xs[q]? = some (.int .i64 ((k + q : Nat) : Int))) ∧ Hid (w.grownBy wr (some g))) (fun _ i _ => ks.length - (intOf i).toNat)
    case atStart => exact ⟨0, _, by omega, rfl, rfl, HO.out, fun q h => by omega, ⟨rfl, rfl, rfl, Nat.le_refl _, fun _ _ _ => rfl⟩⟩
    case round =>
      obtain ⟨j, xs, hj, rfl, rfl, hownr, HX, HG⟩ := hrel
      clear HO hown
      by_cases hlt : j < ks.length
      · have hlt' : (j : Int) < ks.length := by omega
        have hst := (hownr.stored j (.int .i64 ((k + j : Nat) : Int))).1
        have HST := hide hst
        have hfz := hownr.frozenAt j
        have hce := hownr.cellAt j (by omega)
        have hxl := hownr.1
        rw [List.getElem?_eq_getElem (by omega)] at hce
        have HX2 : Hid (∀ q, q < j + 1 → (xs.set j (.int .i64 ((k + j : Nat) : Int)))[q]? = some (.int .i64 ((k + q : Nat) : Int))) := by
          show ∀ q, _
          intro q hq
          by_cases e : j = q
          · subst e; rw [List.getElem?_set_self (by omega)]
          · rw [List.getElem?_set_ne e]; exact HX.out q (by omega)
        have HG2 := hide (HG.out.trans (grown_set wr ⟨g, j, none⟩ (.int .i64 ((k + j : Nat) : Int))))
        obtain ⟨K, hK⟩ : ∃ K, K = k + j := ⟨_, rfl⟩
        have HKE := hide hK
        rw [← hK] at HST HX2 HG2 ⊢
        have hK2 : K ≤ 200000000 := by omega
        clear hst HX HG hK hownr
        go_wp2_with fail
        go_roundw
        case rel => exact ⟨j + 1, _, by omega, by go_num, by have := HKE.out; rw [show k + (j + 1) = K + 1 by omega]; go_num, HST.out, HX2, HG2⟩
        case measure => simp [intOf]; omega
      · have hjk : j = ks.length := by omega
        subst hjk
        have hxs : xs = (nums k ks.length).map (Value.int .i64) := by
          refine List.ext_getElem? fun q => ?_
          by_cases hq : q < ks.length
          · rw [HX.out q hq, List.getElem?_map, List.getElem?_eq_getElem (by rw [nums_len]; exact hq), nums_get k _ q hq]; rfl
          · have h1 := hownr.1
            rw [List.getElem?_eq_none (by omega), List.getElem?_eq_none (by rw [List.length_map, nums_len]; omega)]
        have HK : Hid (KidRow lo wr (.slice (some ⟨g, 0, none⟩) ks.length cap) (nums k ks.length)) := by
          show _
          unfold KidRow
          rw [nums_len, ← hxs]
          exact hownr
        clear hownr hxs HX
        go_wp2_with fail
        go_ret
        exact ⟨rfl, HK.out, HG.out⟩
end Go.Proofs.YtpmpooekpeocdaaGreat

/- Rows of nodes of levels within a range of blocks, and their marks. -/
namespace Go.Proofs.YtpmpooekpeocdaaGreat
open Go.ChangeShapes Go.WideShapes Go.ChangeAt Go.RowKit

/-- A row of nodes that lies within a range of blocks. -/
def NdR (lo hi : Nat) (w : World) (v : Value) (ns : List Nd) : Prop :=
  ∃ xs, w.ownsRow lo 243 3 v ns.length xs ∧ (∀ b, v.ownBlock = some b → b < hi) ∧ (∀ i (h : i < ns.length), xs[i * 3]? = some (.int .i64 ns[i].k) ∧ xs[i * 3 + 1]? = some (.string ns[i].s) ∧ ∃ kv, xs[i * 3 + 2]? = some kv ∧ KidRow lo w kv ns[i].kids ∧ ∀ b, kv.ownBlock = some b → b < hi) ∧ Apart xs ns.length
theorem NdW.toR {lo : Nat} {w : World} {v : Value} {ns : List Nd} (h : NdW lo w v ns) : NdR lo w.heap.size w v ns := by
  obtain ⟨xs, h1, h2, h3⟩ := h
  refine ⟨xs, h1, fun b hb => (World.ownsRow.lt h1 b hb).2, fun i hi => ?_, h3⟩
  obtain ⟨a, b, kv, c, d⟩ := h2 i hi
  exact ⟨a, b, kv, c, d, fun b hb => (World.ownsRow.lt d b hb).2⟩
/-- Where the blocks of the range are as before. -/
theorem NdR.same {lo hi : Nat} {w w' : World} {v : Value} {ns : List Nd} (h : NdR lo hi w v ns) (hh : ∀ b, lo ≤ b → b < hi → w'.heap[b]? = w.heap[b]?) : NdR lo hi w' v ns := by
  obtain ⟨xs, h1, h0, h2, h3⟩ := h
  refine ⟨xs, row_same h1 (fun g hg => hh g (World.ownsRow.lt h1 g hg).1 (h0 g hg)), h0, fun i hi => ?_, h3⟩
  obtain ⟨a, b, kv, c, d, e⟩ := h2 i hi
  exact ⟨a, b, kv, c, row_same d (fun g hg => hh g (World.ownsRow.lt d g hg).1 (e g hg)), e⟩
theorem NdR.out {lo hi l2 h2 : Nat} {w w' : World} {v : Value} {ns : List Nd} (h : NdR lo hi w v ns) (hc : Chg l2 h2 w w') (hd : hi ≤ l2 ∨ h2 ≤ lo) (hl : hi ≤ w.heap.size) : NdR lo hi w' v ns :=
  h.same fun b h3 h4 => hc.out (by omega) (by omega)
theorem NdR.form {lo hi : Nat} {w : World} {v : Value} {ns : List Nd} (h : NdR lo hi w v ns) : ∃ a cap, v = .slice a ns.length cap := by
  obtain ⟨xs, h1, _⟩ := h; exact row_form h1
theorem NdR.nodes {lo hi : Nat} {w : World} {v : Value} {ns : List Nd} (h : NdR lo hi w v ns) : NodesAt w v ns := by
  obtain ⟨xs, h1, _, h2, _⟩ := h
  rcases h1.2 with ⟨h3, h4⟩ | ⟨g, cap, cur, h3, h4⟩
  · exact ⟨none, 0, by rw [h3, h4], by omega, by unfold maxLen; omega, fun h => by omega⟩
  · subst h3
    exact NdRow.nodes (Q := fun _ => True) ⟨xs, h1, fun i hi => by obtain ⟨a, b, kv, c, d, _⟩ := h2 i hi; exact ⟨a, b, kv, c, d, fun _ _ => trivial⟩⟩
/-- How many marks a list of nodes takes. -/
def costN : List Nd → Nat
  | [] => 0
  | nd :: ns => 2 + nd.kids.length + costN ns
def markN (k : Nat) : List Nd → List Nd
  | [] => []
  | nd :: ns => ⟨(k : Int), mt (k + 1), nums (k + 2) nd.kids.length⟩ :: markN (k + 2 + nd.kids.length) ns
theorem costN_append (a b : List Nd) : costN (a ++ b) = costN a + costN b := by
  induction a with
  | nil => simp [costN]
  | cons x a ih => simp [costN, ih]; omega
theorem markN_append (a b : List Nd) : ∀ k, markN k (a ++ b) = markN k a ++ markN (k + costN a) b := by
  induction a with
  | nil => intro k; simp [markN, costN]
  | cons x a ih => intro k; simp only [List.cons_append, markN, ih, costN]; rw [show k + 2 + x.kids.length + costN a = k + (2 + x.kids.length + costN a) by omega]
theorem markN_len (ns : List Nd) : ∀ k, (markN k ns).length = ns.length := by
  induction ns with
  | nil => intro k; rfl
  | cons x a ih => intro k; simp [markN, ih]
theorem costN_snoc (ns : List Nd) (i : Nat) (h : i < ns.length) : costN (ns.take (i + 1)) = costN (ns.take i) + (2 + ns[i].kids.length) := by
  rw [List.take_succ_eq_append_getElem h, costN_append]; simp [costN]
theorem costN_le (ns : List Nd) (i : Nat) : costN (ns.take i) ≤ costN ns := by
  conv => rhs; rw [← List.take_append_drop i ns, costN_append]
  omega
/-- Some nodes marked, the others not yet. -/
def partN (k : Nat) (ns : List Nd) (i : Nat) : List Nd := markN k (ns.take i) ++ ns.drop i
theorem partN_len (k : Nat) (ns : List Nd) (i : Nat) : (partN k ns i).length = ns.length := by
  unfold partN; rw [List.length_append, markN_len, ← List.length_append, List.take_append_drop]
theorem partN_get (k : Nat) (ns : List Nd) (i : Nat) (h : i < ns.length) : (partN k ns i)[i]? = some ns[i] := by
  unfold partN
  have hl : (markN k (ns.take i)).length = i := by rw [markN_len]; simp; omega
  rw [List.getElem?_append_right (by omega), hl, Nat.sub_self, List.drop_eq_getElem_cons h]; rfl
theorem partN_set (k : Nat) (ns : List Nd) (i : Nat) (h : i < ns.length) : (partN k ns i).set i ⟨((k + costN (ns.take i) : Nat) : Int), mt (k + costN (ns.take i) + 1), nums (k + costN (ns.take i) + 2) ns[i].kids.length⟩ = partN k ns (i + 1) := by
  unfold partN
  have hl : (markN k (ns.take i)).length = i := by rw [markN_len]; simp; omega
  rw [List.set_append_right _ _ (by omega), hl, Nat.sub_self, List.drop_eq_getElem_cons h, List.set_cons_zero, List.take_succ_eq_append_getElem h, markN_append]
  simp [markN]
/-- One node written anew, within its own blocks. -/
theorem NdR.put {lo hi : Nat} {w w1 w2 : World} {g cap : Nat} {ns : List Nd} {xs : List Value} {i : Nat} {kv : Value} {k : Int} {s : ByteArray} {ks : List Int} (hi0 : i < ns.length) (h1 : w.ownsRow lo 243 3 (.slice (some ⟨g, 0, none⟩) ns.length cap) ns.length xs) (h0 : g < hi) (h2 : ∀ i (h : i < ns.length), xs[i * 3]? = some (.int .i64 ns[i].k) ∧ xs[i * 3 + 1]? = some (.string ns[i].s) ∧ ∃ kv, xs[i * 3 + 2]? = some kv ∧ KidRow lo w kv ns[i].kids ∧ ∀ b, kv.ownBlock = some b → b < hi) (h3 : Apart xs ns.length)
    (hkv : xs[i * 3 + 2]? = some kv) (ho : w1.ownsRow lo 243 3 (.slice (some ⟨g, 0, none⟩) ns.length cap) ns.length ((xs.set (i * 3) (.int .i64 k)).set (i * 3 + 1) (.string s))) (hb1 : ∀ b, b < w.heap.size → b ≠ g → w1.heap[b]? = w.heap[b]?) (hg : w1.grownBy w2 kv.ownBlock) (hk : KidRow lo w2 kv ks) : NdR lo hi w2 (.slice (some ⟨g, 0, none⟩) ns.length cap) (ns.set i ⟨k, s, ks⟩) := by
  have hxl := h1.1
  have hne : ∀ j kv' b, j < ns.length → xs[j * 3 + 2]? = some kv' → kv'.ownBlock = some b → b ≠ g := by
    intro j kv' b hj hx hb
    obtain ⟨_, _, kv2, c, d, _⟩ := h2 j hj
    rw [c] at hx
    obtain rfl := Option.some.inj hx
    rcases d.2 with ⟨hn, _⟩ | ⟨g2, cap2, cur2, hn, _⟩
    · rw [hn] at hb; simp [Value.ownBlock] at hb
    · have hd : w.ownsRow lo 3 1 (.slice (some ⟨g2, 0, none⟩) ns[j].kids.length cap2) ns[j].kids.length (ns[j].kids.map (Value.int .i64)) := by rw [← hn]; exact d
      rw [hn] at hb
      simp [Value.ownBlock] at hb
      subst hb
      exact rows_ne hd h1 (by decide)
  have hgk : kv.ownBlock ≠ some g := fun e => hne i kv g hi0 hkv e rfl
  refine ⟨(xs.set (i * 3) (.int .i64 k)).set (i * 3 + 1) (.string s), ?_, fun b hb => by simp [Value.ownBlock] at hb; omega, fun j hj => ?_, ?_⟩
  · rw [List.length_set]
    exact World.ownsRow.kept ho hg (by
      rcases hob : kv.ownBlock with _ | b
      · exact .inr (by simp [Value.ownBlock])
      · exact .inr (by simp [Value.ownBlock]; intro e; exact hgk (by rw [hob, e])))
  · have hj' : j < ns.length := by simpa using hj
    by_cases e : j = i
    · subst e
      rw [List.getElem_set_self]
      refine ⟨?_, ?_, kv, ?_, hk, ?_⟩
      · rw [List.getElem?_set_ne (by omega), List.getElem?_set_self (by omega)]
      · rw [List.getElem?_set_self (by rw [List.length_set]; omega)]
      · rw [List.getElem?_set_ne (by omega), List.getElem?_set_ne (by omega)]; exact hkv
      · obtain ⟨_, _, kv2, c, d, f⟩ := h2 j hi0
        rw [c] at hkv
        obtain rfl := Option.some.inj hkv
        exact f
    · obtain ⟨a, b, kv2, c, d, f⟩ := h2 j hj'
      rw [List.getElem_set_ne (by omega)]
      refine ⟨?_, ?_, kv2, ?_, ?_, f⟩
      · rw [List.getElem?_set_ne (by omega), List.getElem?_set_ne (by omega)]; exact a
      · rw [List.getElem?_set_ne (by omega), List.getElem?_set_ne (by omega)]; exact b
      · rw [List.getElem?_set_ne (by omega), List.getElem?_set_ne (by omega)]; exact c
      · have d1 : KidRow lo w1 kv2 ns[j].kids := row_same d (fun q hq => hb1 q (World.ownsRow.lt d q hq).2 (hne j kv2 q hj' c hq))
        refine World.ownsRow.kept d1 hg ?_
        rcases hob : kv2.ownBlock with _ | b
        · exact .inl rfl
        · refine .inr (fun e2 => ?_)
          exact h3 j i hj' hi0 e kv2 kv b c hkv hob e2.symm
  · rw [List.length_set]
    intro p q hp hq hpq kv1 kv2 b c1 c2 e1 e2
    rw [List.getElem?_set_ne (by omega), List.getElem?_set_ne (by omega)] at c1 c2
    exact h3 p q hp hq hpq kv1 kv2 b c1 c2 e1 e2
end Go.Proofs.YtpmpooekpeocdaaGreat
