/- Levels copied, as rows of the call's own, each within a range of blocks; what toLevelS, markStringS and markLevelS answer. -/
import Derived.Test.YtcagcfhnbphggaaGreatDoorToO
import Derived.Test.YtcagcfhnbphggaaGreatDoorTTo
namespace Go.Proofs.YtcagcfhnbphggaaGreatDoor
open Go.ChangeShapes Go.WideShapes Go.ChangeAt Go.RowKit

/-- A row of levels, each within a range of blocks behind those of the one in front of it. -/
def LsR (lo hi : Nat) (w : World) (R n cap : Nat) (ls : List (List Nd)) : Prop :=
  ∃ (xs : List Value) (f : Nat → Nat), w.ownsRow lo 94 1 (.slice (some ⟨R, 0, none⟩) n cap) n xs ∧ R < f 0 ∧ (∀ i, i < ls.length → f i ≤ f (i + 1)) ∧ f ls.length ≤ hi ∧ ∀ i (h : i < ls.length), ∃ v, xs[i]? = some v ∧ NdR (f i) (f (i + 1)) w v ls[i]
theorem mono_le {f : Nat → Nat} {n : Nat} (h : ∀ i, i < n → f i ≤ f (i + 1)) : ∀ i j, i ≤ j → j ≤ n → f i ≤ f j := by
  intro i j hij hj
  induction j with
  | zero => have : i = 0 := by omega
            subst this; exact Nat.le_refl _
  | succ j ih =>
    by_cases e : i = j + 1
    · subst e; exact Nat.le_refl _
    · exact Nat.le_trans (ih (by omega) (by omega)) (h j (by omega))
theorem LsR.same {lo hi : Nat} {w w' : World} {R n cap : Nat} {ls : List (List Nd)} (h : LsR lo hi w R n cap ls) (hh : ∀ b, lo ≤ b → b < hi → w'.heap[b]? = w.heap[b]?) (hR : R < hi) : LsR lo hi w' R n cap ls := by
  obtain ⟨xs, f, h1, h2, h3, h4, h5⟩ := h
  have hlo := (h1.lt R rfl).1
  refine ⟨xs, f, row_same h1 (fun g hg => hh g (World.ownsRow.lt h1 g hg).1 (by simp [Value.ownBlock] at hg; omega)), h2, h3, h4, fun i hi => ?_⟩
  obtain ⟨v, a, b⟩ := h5 i hi
  have m1 := mono_le h3 0 i (by omega) (by omega)
  have m2 := mono_le h3 (i + 1) ls.length (by omega) (by omega)
  exact ⟨v, a, b.same (fun q q1 q2 => hh q (by omega) (by omega))⟩
theorem LsR.levs {lo hi : Nat} {w : World} {R n cap : Nat} {ls : List (List Nd)} (h : LsR lo hi w R n cap ls) (hn : ls.length = n) : LevsAt w (.slice (some ⟨R, 0, none⟩) n cap) ls := by
  obtain ⟨xs, f, h1, _, _, _, h5⟩ := h
  obtain ⟨hc1, hc2⟩ := ownsRow_cap h1
  subst hn
  refine ⟨_, cap, rfl, hc1, hc2, fun _ => ⟨R, 0, rfl, fun i hi => ?_⟩⟩
  obtain ⟨v, a, b⟩ := h5 i hi
  exact ⟨v, by rw [Nat.zero_add, h1.cellAt i (by omega)]; exact a, b.nodes⟩
/-- The first k levels of the row R. -/
def LevsO (w : World) (R : Nat) (xs : List Value) (ls : List (List Nd)) (k : Nat) : Prop :=
  ∃ f : Nat → Nat, R < f 0 ∧ (∀ i, i < k → f i ≤ f (i + 1)) ∧ f k ≤ w.heap.size ∧ ∀ i (h : i < ls.length), i < k → ∃ v, xs[i]? = some v ∧ NdR (f i) (f (i + 1)) w v ls[i]
theorem LevsO.put {w w2 : World} {R : Nat} {xs : List Value} {ls : List (List Nd)} {k : Nat} {u : Value} (hx : xs.length = ls.length) (h : LevsO w R xs ls k) (hk : k < ls.length) (hb : Below w.heap.size w w2) (hu : NdW w.heap.size w2 u ls[k]) (u1 : Value) : LevsO (w2.setCell ⟨R, k, none⟩ u1) R (xs.set k u) ls (k + 1) := by
  obtain ⟨f, f1, f2, f3, f4⟩ := h
  have hs := hb.size
  have m0 := mono_le f2 0 k (by omega) (Nat.le_refl _)
  refine ⟨fun i => if i ≤ k then f i else w2.heap.size, by simp; exact f1, fun i hi => ?_, by rw [size_set]; simp only [if_neg (show ¬ k + 1 ≤ k by omega)]; exact Nat.le_refl _, fun i hi hik => ?_⟩
  · by_cases e : i < k
    · simp only [if_pos (show i ≤ k by omega), if_pos (show i + 1 ≤ k by omega)]; exact f2 i e
    · have : i = k := by omega
      subst this
      simp only [if_pos (Nat.le_refl i), if_neg (show ¬ i + 1 ≤ i by omega)]; omega
  · by_cases e : i = k
    · subst e
      refine ⟨u, by rw [List.getElem?_set_self (by omega)], ?_⟩
      simp only [if_pos (Nat.le_refl i), if_neg (show ¬ i + 1 ≤ i by omega)]
      exact ((hu.mono f3).toR).same (fun b hb1 _ => Below.heap_setCell w2 _ _ b (by show b ≠ R; omega))
    · obtain ⟨v, a, b⟩ := f4 i hi (by omega)
      have m1 := mono_le f2 0 i (by omega) (by omega)
      have m2 := mono_le f2 (i + 1) k (by omega) (Nat.le_refl _)
      refine ⟨v, by rw [List.getElem?_set_ne (by omega)]; exact a, ?_⟩
      simp only [if_pos (show i ≤ k by omega), if_pos (show i + 1 ≤ k by omega)]
      exact b.same (fun q q1 q2 => by rw [Below.heap_setCell w2 _ _ q (by show q ≠ R; omega)]; exact hb.block q (by omega))
set_option maxRecDepth 20000 in
set_option maxHeartbeats 1000000 in
theorem toLevelS_own (v : Value) (ls : List (List Nd)) (w : World) (hn : LevsAt w v ls) (hl : ls.length ≤ 1048576) (hkl : ∀ l ∈ ls, l.length ≤ 1048576 ∧ ∀ nd ∈ l, nd.kids.length ≤ 1048576) :
    Calls Tryz.prog 46 #[v] w fun e w' => ∃ g, e = .returned (.slice (some ⟨g, 0, none⟩) ls.length ls.length) ∧ LsR w.heap.size w'.heap.size w' g ls.length ls.length ls ∧ w.heap.size ≤ g ∧ Below w.heap.size w w' := by
  obtain ⟨i0, hi, hz0, hz1, hz2⟩ := info_parts Tryz.info94
  obtain ⟨a, cap, rfl, hlc, hcm, hc⟩ := hn
  have HC : Hid (0 < ls.length → ∃ b off, a = some ⟨b, off, none⟩ ∧ ∀ i (h : i < ls.length), ∃ u, w.cell? ⟨b, off + i, none⟩ = some u ∧ NodesAt w u ls[i]) := hc
  have HK := hide hkl
  clear hc hkl
  go_enter Tryz.func46, Tryz.ntmps46
  go_wp2_with (at_make; refine wpList_make_full _ rfl _ _ 56 rfl w.heap.size 94 i0 (.agg #[.slice none 0 0]) 1 Tryz.underlying56 hi hz0 hz1 .i64 .i64 _ _ ls.length rfl rfl rfl rfl (by rw [hz2]; omega) (by unfold maxLen; omega) (Nat.le_refl _) ?_; intro w1 hown hgrow)
  go_loopw [4] (fun i wr => ∃ (k : Nat) (xs : List Value), k ≤ ls.length ∧ i = .int .i64 k ∧ wr.ownsRow w.heap.size 94 1 (.slice (some ⟨w.heap.size, 0, none⟩) ls.length ls.length) ls.length xs ∧ Hid (LevsO wr w.heap.size xs ls k) ∧ w.heap.size < wr.heap.size ∧ Below w.heap.size w wr) (fun i _ => ls.length - (intOf i).toNat)
  case atStart => exact ⟨0, _, by omega, rfl, hown, ⟨fun _ => w.heap.size + 1, Nat.lt_succ_self _, fun _ h => by omega, (hown.lt w.heap.size rfl).2, fun _ _ h => by omega⟩, (hown.lt _ rfl).2, (Below.refl _ _).grown hgrow (Nat.le_refl _) (fun k hk => by cases hk)⟩
  case round =>
    obtain ⟨k, xs, hk, rfl, hownr, HX, hsz, hbel⟩ := hrel
    clear hown hgrow
    by_cases hlt : k < ls.length
    · obtain ⟨b, off, ha, hc⟩ := HC.out (by omega)
      subst ha
      obtain ⟨u, c1, hnu⟩ := hc k hlt
      obtain ⟨hkl1, hkl2⟩ := HK.out ls[k] (by simp)
      have c1' := keep_cell hbel c1
      have HNU := hide (hnu.keep hbel)
      have HKL := hide hkl2
      obtain ⟨ua, uc, rfl, _, _, _⟩ := hnu
      clear hc c1 hkl2
      go_wp2_with fail
      refine (toLevel_own _ ls[k] _ HNU.out hkl1 HKL.out).mono ?_
      rintro e w2 ⟨g, rfl, hfr, hg, hb⟩
      have hown2 := row_keep hb hownr
      have hbel2 : Below w.heap.size w w2 := hbel.trans (hb.mono hbel.size)
      have hxl := hown2.1
      have s1 := (hown2.stored k (.slice (some ⟨g, 0, none⟩) ls[k].length ls[k].length)).1
      have f1 := hown2.frozenAt k
      have e1 := hown2.cellAt k (by omega)
      rw [List.getElem?_eq_getElem (by omega)] at e1
      have hsz2 : w.heap.size < w2.heap.size := by have := hb.size; omega
      have HP := hide (HX.out.put (u := .slice (some ⟨g, 0, none⟩) ls[k].length ls[k].length) (by omega) hlt hb hfr (.slice (some ⟨g, 0, none⟩) ls[k].length ls[k].length))
      clear HX hfr hown2 hownr hb c1'
      go_wp2_with fail
      go_roundw
      case rel => exact ⟨k + 1, _, by omega, by go_num, s1, HP, by simpa [World.setCell] using hsz2, hbel2.setCell (p := ⟨_, _, _⟩) (Nat.le_refl _) _⟩
      case measure => simp [intOf]; omega
    · have hall : LsR w.heap.size wr.heap.size wr w.heap.size ls.length ls.length ls := by
        have hx := HX.out
        rw [show k = ls.length from by omega] at hx
        obtain ⟨f, f1, f2, f3, f4⟩ := hx
        exact ⟨xs, f, hownr, f1, f2, f3, fun i hi => f4 i hi hi⟩
      go_wp2_with fail
      go_ret
      exact ⟨_, rfl, hall, Nat.le_refl _, hbel⟩
def costLs : List (List Nd) → Nat
  | [] => 0
  | l :: ls => costN l + costLs ls
theorem costLs_append (a b : List (List Nd)) : costLs (a ++ b) = costLs a + costLs b := by
  induction a with
  | nil => simp [costLs]
  | cons x a ih => simp [costLs, ih]; omega
theorem costLs_snoc (ls : List (List Nd)) (i : Nat) (h : i < ls.length) : costLs (ls.take (i + 1)) = costLs (ls.take i) + costN ls[i] := by
  rw [List.take_succ_eq_append_getElem h, costLs_append]; simp [costLs]
theorem costLs_le (ls : List (List Nd)) (i : Nat) : costLs (ls.take i) ≤ costLs ls := by
  conv => rhs; rw [← List.take_append_drop i ls, costLs_append]
  omega
set_option maxRecDepth 20000 in
set_option maxHeartbeats 4000000 in
theorem markLevelS_any (lo hi R cap : Nat) (ls : List (List Nd)) (k0 : Nat) (w : World) (h : LsR lo hi w R ls.length cap ls) (hhi : hi ≤ w.heap.size) (hkl : ∀ l ∈ ls, l.length ≤ 1048576 ∧ ∀ nd ∈ l, nd.kids.length ≤ 1048576) (hn : ls.length ≤ 1048576) (hk1 : 1 ≤ k0) (hk : k0 + costLs ls ≤ 50000000) :
    Calls Tryz.prog 38 #[.slice (some ⟨R, 0, none⟩) ls.length cap, .int .i64 k0] w fun e w' => e = .returned (.int .i64 ((k0 + costLs ls : Nat) : Int)) ∧ Chg lo hi w w' := by
  obtain ⟨xs, f, h1, h2, h3, h4, h5⟩ := h
  have hRl := h1.lt R rfl
  have HM := hide h3
  have HKL := hide hkl
  have H0 : Hid (∀ i (h : i < ls.length), 0 ≤ i → ∃ v, xs[i]? = some v ∧ NdR (f i) (f (i + 1)) w v ls[i]) := fun i hi _ => h5 i hi
  have HR := hide h1
  clear h3 h5 hkl h1
  go_enter Tryz.func38, Tryz.ntmps38
  go_wp2_with fail
  go_loopw [1, 5] (fun m i wr => ∃ (j K : Nat), j ≤ ls.length ∧ i = .int .i64 j ∧ m = .int .i64 K ∧ Hid (K = k0 + costLs (ls.take j)) ∧ Hid (∀ i (h : i < ls.length), j ≤ i → ∃ v, xs[i]? = some v ∧ NdR (f i) (f (i + 1)) wr v ls[i]) ∧ Hid (Chg (f 0) (f ls.length) w wr)) (fun _ i _ => ls.length - (intOf i).toNat)
  case atStart => exact ⟨0, k0, by omega, rfl, rfl, by show _ = _; simp [costLs], H0, Chg.refl _ _ _⟩
  case round =>
    obtain ⟨j, K, hj, rfl, rfl, HK, HN, HC⟩ := hrel
    clear H0
    have hK1 : 1 ≤ K := by have := HK.out; omega
    have hK2 : K ≤ 50000000 := by have := HK.out; have := costLs_le ls j; omega
    have hm0 := mono_le HM.out 0 ls.length (by omega) (Nat.le_refl _)
    by_cases hlt : j < ls.length
    · have hlt' : (j : Int) < ls.length := by omega
      obtain ⟨v, hv, hnd⟩ := HN.out j hlt (Nat.le_refl _)
      have m1 := mono_le HM.out 0 j (by omega) (by omega)
      have m2 := mono_le HM.out (j + 1) ls.length (by omega) (Nat.le_refl _)
      have m3 := HM.out j hlt
      have hsz := HC.out.1.size
      have hrow : wr.ownsRow lo 94 1 (.slice (some ⟨R, 0, none⟩) ls.length cap) ls.length xs := row_same HR.out (fun g hg => HC.out.out (by simp [Value.ownBlock] at hg; omega) (World.ownsRow.lt HR.out g hg).2)
      have hxl := hrow.1
      have c1 := hrow.cellAt j (by omega)
      rw [hv] at c1
      obtain ⟨hl1, hl2⟩ := HKL.out ls[j] (List.getElem_mem hlt)
      have HCST : Hid (K + costN ls[j] = k0 + costLs (ls.take (j + 1))) := by show _ = _; rw [costLs_snoc ls j hlt]; have := HK.out; omega
      have HCALL := hide (markLNodeS_any (f j) (f (j + 1)) v ls[j] K wr hnd (by omega) hl2 hK1 (by have := HCST.out; have := costLs_le ls (j + 1); omega) hl1)
      obtain ⟨va, vc, hvf⟩ := hnd.form
      subst hvf
      clear hrow hnd hl2
      go_wp2_with fail
      refine HCALL.out.mono ?_
      rintro e w2 ⟨rfl, hn2, hc2⟩
      have HN2 : Hid (∀ i (h : i < ls.length), j + 1 ≤ i → ∃ v, xs[i]? = some v ∧ NdR (f i) (f (i + 1)) w2 v ls[i]) := by
        show ∀ i, _
        intro i hi hji
        obtain ⟨v, a, b⟩ := HN.out i hi (by omega)
        have m4 := mono_le HM.out (j + 1) i (by omega) (by omega)
        have m5 := mono_le HM.out (i + 1) ls.length (by omega) (Nat.le_refl _)
        exact ⟨v, a, b.out hc2 (.inr (by omega)) (by omega)⟩
      have HC2 := hide (HC.out.trans (hc2.mono m1 m2))
      clear hn2 hc2
      generalize costN ls[j] = cj at *
      go_wp2_with fail
      go_roundw
      case rel => exact ⟨j + 1, K + cj, by omega, by go_num, rfl, HCST, HN2, HC2⟩
      case measure => simp [intOf]; omega
    · have hjn : j = ls.length := by omega
      subst hjn
      have HRR : Hid (K = k0 + costLs ls) := by show _ = _; have := HK.out; rwa [List.take_length] at this
      have HC2 := hide (HC.out.mono (lo' := lo) (hi' := hi) (by omega) (by omega))
      go_wp2_with fail
      go_ret
      exact ⟨ret_int (by rw [HRR.out]), HC2.out⟩
end Go.Proofs.YtcagcfhnbphggaaGreatDoor

/- What the copying of a term (toTerm, toNodeS) answers: a new term with the same nodes; nothing that was there is written. -/
namespace Go.Proofs.YtcagcfhnbphggaaGreatDoor
open Go.ChangeShapes Go.WideShapes Go.ChangeAt Go.RowKit

theorem Tryz.info58 : (Tryz.prog.info? 58).map (fun i => (i.zero, i.size, i.bytes)) = some (some (.agg #[.int .i64 0, .int .i64 0, .int .i64 0, .string ⟨#[]⟩, .slice none 0 0, .slice none 0 0]), 6, 88) := by kernel_rfl
/-- What is asked of a node that is copied. -/
def TSmall (td : Td) : Prop := td.lv.length ≤ 1048576 ∧ (∀ l ∈ td.lv, l.length ≤ 1048576 ∧ ∀ nd ∈ l, nd.kids.length ≤ 1048576) ∧ td.kids.length ≤ 1048576
end Go.Proofs.YtcagcfhnbphggaaGreatDoor
