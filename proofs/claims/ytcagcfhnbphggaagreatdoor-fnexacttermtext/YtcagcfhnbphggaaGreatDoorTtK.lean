/- The iterator and the kids of a node, while the program goes through its parts. -/
import Derived.Test.YtcagcfhnbphggaaGreatDoorTtC
namespace Go.Proofs.YtcagcfhnbphggaaGreatDoor
open Go.ChangeShapes Go.WideShapes Go.ChangeAt Go.RowKit

theorem FrW.iter {wb kb : Nat} {w wr : World} (h : FrW wb w wr) (hk : w.heap.size ≤ kb) (hw : wb ≤ kb) (s : ByteArray) (pos : Nat) : FrW wb w (wr.iterAt kb s pos) :=
  ⟨Lib.below_iterAt h.bel hw s pos, fun k o hko hb ho => by
    have hlt := (Array.getElem?_eq_some_iff.1 hko).1
    rw [Lib.iterAt_other wr kb k s pos (by omega)]
    exact h.oth k o hko hb ho⟩
theorem Else.iter {wb kb k : Nat} {o : Obj} {wr : World} (h : Else wb o k wr) (hk : k ≠ kb) (s : ByteArray) (pos : Nat) : Else wb o k (wr.iterAt kb s pos) :=
  ⟨(Lib.iterAt_other wr kb k s pos hk).trans h.1, h.2⟩
theorem IsW.iter {B wb kb : Nat} {nv : Value} {bs : List UInt8} {wr : World} {s : ByteArray} {p0 : Nat} (h : IsW B wb nv bs wr) (hk : wr.heap[kb]? = some (.stringIter s p0)) (pos : Nat) : IsW B wb nv bs (wr.iterAt kb s pos) := by
  obtain ⟨⟨tv, h1, h2⟩, h3, h4⟩ := h
  have hne : wb ≠ kb := fun e => by rw [e, hk] at h1; cases h1
  have hg : wr.grownBy (wr.iterAt kb s pos) (some kb) := ⟨rfl, rfl, rfl, by rw [Lib.iterAt_size]; exact Nat.le_refl _, fun k _ hk => Lib.iterAt_other wr kb k s pos (fun e => hk (by rw [e]))⟩
  refine ⟨⟨tv, (Lib.iterAt_other wr kb wb s pos hne).trans h1, h2.kept hg (.inr (fun e => ?_))⟩, h3, by rw [Lib.iterAt_size]; exact h4⟩
  rcases h2.2 with ⟨rfl, _⟩ | ⟨g', cap, cur, rfl, _, hgg, _⟩
  · simp [Value.ownBlock] at e
  · simp [Value.ownBlock] at e
    rw [e, hk] at hgg
    cases hgg
/-- The kids that are left, and what is left behind the first. -/
theorem slice_one {w0 : World} {kv : Value} {ks : List Int} (h : IntsAt w0 kv ks) (hl : 0 < ks.length) : ∃ b off cap a2 c2, kv = .slice (some ⟨b, off, none⟩) ks.length cap ∧ ks.length ≤ cap ∧ w0.cell? ⟨b, off, none⟩ = some (.int .i64 (ks.getD 0 0)) ∧ IntsAt w0 (.slice a2 (ks.length - 1) c2) (ks.drop 1) ∧
    ∀ W : World, (Instr.slice 52 (.slice (some ⟨b, off, none⟩) ks.length cap) (some (.int .i64 1)) none none).run Tryz.prog W = .ok (.slice a2 (ks.length - 1) c2) W := by
  obtain ⟨a, cap, rfl, h1, h2, h3⟩ := h
  obtain ⟨b, off, rfl, hc⟩ := h3 hl
  have c0 := hc 0 hl
  have hr : ∀ W : World, (Instr.slice 52 (.slice (some ⟨b, off, none⟩) ks.length cap) (some (.int .i64 1)) none none).run Tryz.prog W = .ok (sliced (some ⟨b, off, none⟩) 1 ks.length cap 1) W := fun W => by
    rw [run_slice_l W 52 (some ⟨b, off, none⟩) ks.length cap (by kernel_rfl) .i64 1 (by omega) (by omega)]
    simp [go_sem]
  refine ⟨b, off, cap, _, cap - 1, rfl, h1, ?_, ?_, hr⟩
  · rw [show ks.getD 0 0 = ks[0] by simp [List.getD, hl]]
    exact c0
  · have hl2 : (ks.drop 1).length = ks.length - 1 := by simp
    refine ⟨_, cap - 1, by rw [hl2], by omega, by omega, fun h0 => ?_⟩
    have hne : ¬ cap = 1 := by omega
    refine ⟨b, off + 1, by simp [hne, Addr.add], fun j hj => ?_⟩
    have := hc (j + 1) (by omega)
    rw [show off + 1 + j = off + (j + 1) by omega, this]
    simp
theorem cntK_le {ps : List UInt8} (i : Nat) : cntK ps i ≤ cntK ps ps.length := by
  unfold cntK
  rw [List.take_length]
  exact ((List.take_sublist i ps).filter _).length_le
theorem cntK_succ {ps : List UInt8} {i : Nat} (h : i < ps.length) : cntK ps (i + 1) = cntK ps i + if ps[i] = 107 then 1 else 0 := by
  unfold cntK
  rw [List.take_succ_eq_append_getElem h, List.filter_append, List.length_append]
  by_cases e : ps[i] = 107
  · simp [e]
  · simp [e]
theorem cntK_all {td : Td} (h : NodeOk td) (hk : 4 ≤ td.k ∧ td.k ≤ 8) : cntK (partsK td.k) (partsK td.k).length = td.kids.length := by
  obtain ⟨k, n, m, s, lv, kids⟩ := td
  have hl := h.kids
  simp only at hk hl ⊢
  have hkk : k = 4 ∨ k = 5 ∨ k = 6 ∨ k = 7 ∨ k = 8 := by omega
  have t4 : tkidsN 4 = 2 := by decide
  have t5 : tkidsN 5 = 2 := by decide
  have t6 : tkidsN 6 = 2 := by decide
  have t7 : tkidsN 7 = 3 := by decide
  have t8 : tkidsN 8 = 1 := by decide
  rcases hkk with rfl | rfl | rfl | rfl | rfl
  · have e : cntK (partsK 4) (partsK 4).length = 2 := by decide
    omega
  · have e : cntK (partsK 5) (partsK 5).length = 2 := by decide
    omega
  · have e : cntK (partsK 6) (partsK 6).length = 2 := by decide
    omega
  · have e : cntK (partsK 7) (partsK 7).length = 3 := by decide
    omega
  · have e : cntK (partsK 8) (partsK 8).length = 1 := by decide
    omega
theorem partsK_in (k : Int) : ∀ q ∈ partsK k, q = 83 ∨ q = 77 ∨ q = 78 ∨ q = 107 := by
  intro q hq
  unfold partsK at hq
  split at hq
  · simp at hq; simp [hq]
  · split at hq
    · simp at hq; rcases hq with rfl | rfl | rfl <;> simp
    · split at hq
      · simp at hq; rcases hq with rfl | rfl <;> simp
      · split at hq
        · simp at hq; rcases hq with rfl | rfl | rfl <;> simp
        · simp at hq
theorem partsK_len (k : Int) : (partsK k).length ≤ 4 := by
  unfold partsK
  split
  · simp
  · split
    · simp
    · split
      · simp
      · split <;> simp
theorem partT_len {td : Td} (hn : NodeOk td) {g : Nat → List UInt8 → List UInt8} {K : Nat} (hg : ∀ p out, (g p out).length ≤ max out.length K) (ps : List UInt8) (out : List UInt8) : ∀ i, (partT td g ps i out).length ≤ max out.length K + 50 * i
  | 0 => by simp only [partT]; omega
  | i + 1 => by
    have h1 := partT_len hn hg ps out i
    have h3 : (if 0 < i ∨ signT td.k ≠ [] then [(32 : UInt8)] else []).length ≤ 1 := by split <;> simp
    have h4 := dD_len (n := td.m) (by have := hn.mode; omega)
    have h5 := dD_len (n := td.n) (by have := hn.num; omega)
    have h6 : td.s.data.toList.length ≤ 40 := by rw [Array.length_toList]; exact hn.str
    have h2 := hg (td.kids.getD (cntK ps i) 0).toNat (partT td g ps i out ++ (if 0 < i ∨ signT td.k ≠ [] then [32] else []))
    rw [List.length_append] at h2
    unfold partT
    split
    · simp only [List.length_append]; omega
    · split
      · simp only [List.length_append]; omega
      · split
        · simp only [List.length_append]; omega
        · omega
end Go.Proofs.YtcagcfhnbphggaaGreatDoor
