/- What the copying of a term (toTerm, toNodeS) answers: a new term with the same nodes; nothing that was there is written. -/
import Derived.Test.YteidnpmkbfkbcaaTTn
namespace Go.Proofs.Yteidnpmkbfkbcaa
open Go.ChangeShapes Go.WideShapes Go.ChangeAt Go.RowKit

theorem Try.info132 : (Try.prog.info? 132).map (fun i => (i.zero, i.size, i.bytes)) = some (some (.agg #[.int .i64 0, .int .i64 0, .int .i64 0, .string ⟨#[]⟩, .slice none 0 0, .slice none 0 0]), 6, 88) := by kernel_rfl
/-- What is asked of a node that is copied. -/
def TSmall (td : Td) : Prop := td.lv.length ≤ 1048576 ∧ (∀ l ∈ td.lv, l.length ≤ 1048576 ∧ ∀ nd ∈ l, nd.kids.length ≤ 1048576) ∧ td.kids.length ≤ 1048576
/-- The first k nodes stand in the row R, what they lead to in blocks behind it. -/
def TNodesIn (w : World) (R : Nat) (xs : List Value) (ts : List Td) (k : Nat) : Prop :=
  ∀ i (h : i < ts.length), i < k → xs[i * 6]? = some (.int .i64 ts[i].k) ∧ xs[i * 6 + 1]? = some (.int .i64 ts[i].n) ∧ xs[i * 6 + 2]? = some (.int .i64 ts[i].m) ∧ xs[i * 6 + 3]? = some (.string ts[i].s) ∧
    ∃ lv, xs[i * 6 + 4]? = some lv ∧ Fr (R + 1) w (fun w => LevsAt w lv ts[i].lv) ∧ ∃ kv, xs[i * 6 + 5]? = some kv ∧ Fr (R + 1) w (fun w => IntsAt w kv ts[i].kids)
theorem TNodesIn.keep {w w' : World} (hb : Below w.heap.size w w') {R : Nat} {xs : List Value} {ts : List Td} {k : Nat} (h : TNodesIn w R xs ts k) : TNodesIn w' R xs ts k := fun i hi hk => by
  obtain ⟨h1, h2, h3, h4, lv, h5, h6, kv, h7, h8⟩ := h i hi hk
  exact ⟨h1, h2, h3, h4, lv, h5, h6.keep hb, kv, h7, h8.keep hb⟩
theorem TNodesIn.put {w w' : World} {R : Nat} {xs : List Value} {ts : List Td} {k : Nat} {lv kv : Value} (hx : xs.length = ts.length * 6) (h : TNodesIn w R xs ts k) (hk : k < ts.length) (hl : Fr (R + 1) w (fun w => LevsAt w lv ts[k].lv)) (hkv : Fr (R + 1) w (fun w => IntsAt w kv ts[k].kids)) (hw : ∀ P, Fr (R + 1) w P → Fr (R + 1) w' P) :
    TNodesIn w' R ((((((xs.set (k * 6) (.int .i64 ts[k].k)).set (k * 6 + 1) (.int .i64 ts[k].n)).set (k * 6 + 2) (.int .i64 ts[k].m)).set (k * 6 + 3) (.string ts[k].s)).set (k * 6 + 4) lv).set (k * 6 + 5) kv) ts (k + 1) := by
  intro i hi hik
  by_cases e : i = k
  · subst e
    refine ⟨?_, ?_, ?_, ?_, lv, ?_, hw _ hl, kv, ?_, hw _ hkv⟩
    · rw [List.getElem?_set_ne (by omega), List.getElem?_set_ne (by omega), List.getElem?_set_ne (by omega), List.getElem?_set_ne (by omega), List.getElem?_set_ne (by omega), List.getElem?_set_self (by omega)]
    · rw [List.getElem?_set_ne (by omega), List.getElem?_set_ne (by omega), List.getElem?_set_ne (by omega), List.getElem?_set_ne (by omega), List.getElem?_set_self (by simp; omega)]
    · rw [List.getElem?_set_ne (by omega), List.getElem?_set_ne (by omega), List.getElem?_set_ne (by omega), List.getElem?_set_self (by simp; omega)]
    · rw [List.getElem?_set_ne (by omega), List.getElem?_set_ne (by omega), List.getElem?_set_self (by simp; omega)]
    · rw [List.getElem?_set_ne (by omega), List.getElem?_set_self (by simp; omega)]
    · rw [List.getElem?_set_self (by simp; omega)]
  · obtain ⟨h1, h2, h3, h4, lv', h5, h6, kv', h7, h8⟩ := h i hi (by omega)
    have hs : ∀ o, o < 6 → ((((((xs.set (k * 6) (.int .i64 ts[k].k)).set (k * 6 + 1) (.int .i64 ts[k].n)).set (k * 6 + 2) (.int .i64 ts[k].m)).set (k * 6 + 3) (.string ts[k].s)).set (k * 6 + 4) lv).set (k * 6 + 5) kv)[i * 6 + o]? = xs[i * 6 + o]? := fun o ho => by
      rw [List.getElem?_set_ne (by omega), List.getElem?_set_ne (by omega), List.getElem?_set_ne (by omega), List.getElem?_set_ne (by omega), List.getElem?_set_ne (by omega), List.getElem?_set_ne (by omega)]
    refine ⟨?_, ?_, ?_, ?_, lv', ?_, hw _ h6, kv', ?_, hw _ h8⟩
    · exact (hs 0 (by omega)).trans h1
    · rw [hs 1 (by omega)]; exact h2
    · rw [hs 2 (by omega)]; exact h3
    · rw [hs 3 (by omega)]; exact h4
    · rw [hs 4 (by omega)]; exact h5
    · rw [hs 5 (by omega)]; exact h7
theorem TNodesIn.fr {w : World} {base R n cap : Nat} {e : TypeId} {xs : List Value} {ts : List Td} (h : w.ownsRow base e 6 (.slice (some ⟨R, 0, none⟩) n cap) n xs) (hn : n = ts.length) (hx : TNodesIn w R xs ts ts.length) :
    Fr R w (fun w => TNodesAt w (.slice (some ⟨R, 0, none⟩) n cap) ts) := by
  subst hn
  intro w' hw
  rcases h.2 with ⟨h', _⟩ | ⟨g', cap', cur, h', _, hg, hnc, hcm, hcs, htake⟩
  · simp at h'
  · simp only [Value.slice.injEq, Option.some.injEq, Addr.mk.injEq, and_true, true_and] at h'
    obtain ⟨rfl, rfl⟩ := h'
    refine ⟨_, _, rfl, hnc, hcm, fun _ => ⟨R, 0, rfl, fun i hi => ?_⟩⟩
    obtain ⟨h1, h2, h3, h4, lv, h5, h6, kv, h7, h8⟩ := hx i hi hi
    rw [Nat.zero_add]
    have cc : ∀ o v, o < 6 → xs[i * 6 + o]? = some v → w'.cell? ⟨R, i * 6 + o, none⟩ = some v := fun o v ho hv => hw _ _ _ (Nat.le_refl _) (by rw [h.cellAt _ (by omega)]; exact hv)
    exact ⟨cc 0 _ (by omega) h1, cc 1 _ (by omega) h2, cc 2 _ (by omega) h3, cc 3 _ (by omega) h4, lv, cc 4 _ (by omega) h5, h6 w' (fun b o v hb => hw b o v (by omega)), kv, cc 5 _ (by omega) h7, h8 w' (fun b o v hb => hw b o v (by omega))⟩

set_option maxHeartbeats 2000000 in
theorem toNodeS_fr (v : Value) (ts : List Td) (w : World) (hn : TNodesAt w v ts) (hl : ts.length ≤ 1048576) (hkl : ∀ td ∈ ts, TSmall td) :
    Calls Try.prog 107 #[v] w fun e w' => ∃ g, e = .returned (.slice (some ⟨g, 0, none⟩) ts.length ts.length) ∧ Fr w.heap.size w' (fun w => TNodesAt w (.slice (some ⟨g, 0, none⟩) ts.length ts.length) ts) ∧ w.heap.size ≤ g ∧ Below w.heap.size w w' := by
  obtain ⟨i0, hi, hz0, hz1, hz2⟩ := info_parts Try.info132
  obtain ⟨a, cap, rfl, hlc, hcm, hc⟩ := hn
  have HC : Hid (0 < ts.length → ∃ b off, a = some ⟨b, off, none⟩ ∧ ∀ i (h : i < ts.length), TNodeAt w b (off + i * 6) ts[i]) := hc
  have HK := hide hkl
  clear hc hkl
  go_enter Try.func107, Try.ntmps107
  go_wp2_with (at_make; refine wpList_make_full _ rfl _ _ 71 rfl w.heap.size 132 i0 (.agg #[.int .i64 0, .int .i64 0, .int .i64 0, .string ⟨#[]⟩, .slice none 0 0, .slice none 0 0]) 6 Try.underlying71 hi hz0 hz1 .i64 .i64 _ _ ts.length rfl rfl rfl rfl (by rw [hz2]; omega) (by unfold maxLen; omega) (Nat.le_refl _) ?_; intro w1 hown hgrow)
  go_loopw [4] (fun i wr => ∃ (k : Nat) (xs : List Value), k ≤ ts.length ∧ i = .int .i64 k ∧ wr.ownsRow w.heap.size 132 6 (.slice (some ⟨w.heap.size, 0, none⟩) ts.length ts.length) ts.length xs ∧ Hid (TNodesIn wr w.heap.size xs ts k) ∧ w.heap.size < wr.heap.size ∧ Below w.heap.size w wr) (fun i _ => ts.length - (intOf i).toNat)
  case atStart => exact ⟨0, _, by omega, rfl, hown, fun j _ h => by omega, (hown.lt _ rfl).2, (Below.refl _ _).grown hgrow (Nat.le_refl _) (fun k hk => by cases hk)⟩
  case round =>
    obtain ⟨k, xs, hk, rfl, hownr, HX, hsz, hbel⟩ := hrel
    clear hown hgrow
    by_cases hlt : k < ts.length
    · obtain ⟨b, off, ha, hc⟩ := HC.out (by omega)
      subst ha
      obtain ⟨c1, c2, c3, c4, lv, c5, hlv, kv, c6, hkv⟩ := (hc k hlt).keep hbel
      have HSM := hide (HK.out ts[k] (by simp))
      have HLV := hide hlv
      have HKV := hide hkv
      obtain ⟨la, lc, rfl, _, _, _⟩ := hlv
      obtain ⟨ka, kc, rfl, _, _, _⟩ := hkv
      clear hc
      go_wp2_with fail
      refine (toNode_fr ts[k] _ _ _ HLV.out HKV.out HSM.out.1 HSM.out.2.1 HSM.out.2.2).mono ?_
      rintro e w2 ⟨gl, gk, rfl, hfl, hfk, hb⟩
      have hown2 := row_keep hb hownr
      have HX2 := hide (HX.out.keep hb)
      have hbel2 : Below w.heap.size w w2 := hbel.trans (hb.mono hbel.size)
      have hxl := hown2.1
      have s0 := (hown2.stored (k * 6) (.int .i64 ts[k].k)).1
      have s1 := (s0.stored (k * 6 + 1) (.int .i64 ts[k].n)).1
      have s2 := (s1.stored (k * 6 + 2) (.int .i64 ts[k].m)).1
      have s3 := (s2.stored (k * 6 + 3) (.string ts[k].s)).1
      have s4 := (s3.stored (k * 6 + 4) (.slice (some ⟨gl, 0, none⟩) ts[k].lv.length ts[k].lv.length)).1
      have s5 := (s4.stored (k * 6 + 5) (.slice (some ⟨gk, 0, none⟩) ts[k].kids.length ts[k].kids.length)).1
      have f0 := hown2.frozenAt (k * 6)
      have f1 := hown2.frozenAt (k * 6 + 1)
      have f2 := hown2.frozenAt (k * 6 + 2)
      have f3 := hown2.frozenAt (k * 6 + 3)
      have f4 := hown2.frozenAt (k * 6 + 4)
      have f5 := hown2.frozenAt (k * 6 + 5)
      have e0 := hown2.cellAt (k * 6) (by omega)
      have e1 := hown2.cellAt (k * 6 + 1) (by omega)
      have e2 := hown2.cellAt (k * 6 + 2) (by omega)
      have e3 := hown2.cellAt (k * 6 + 3) (by omega)
      have e4 := hown2.cellAt (k * 6 + 4) (by omega)
      have e5 := hown2.cellAt (k * 6 + 5) (by omega)
      rw [List.getElem?_eq_getElem (by omega)] at e0 e1 e2 e3 e4 e5
      have hsz2 : w.heap.size < w2.heap.size := by have := hb.size; omega
      have HP := hide (HX2.out.put (w' := (((((w2.setCell ⟨w.heap.size, k * 6, none⟩ (.int .i64 ts[k].k)).setCell ⟨w.heap.size, k * 6 + 1, none⟩ (.int .i64 ts[k].n)).setCell ⟨w.heap.size, k * 6 + 2, none⟩ (.int .i64 ts[k].m)).setCell ⟨w.heap.size, k * 6 + 3, none⟩ (.string ts[k].s)).setCell ⟨w.heap.size, k * 6 + 4, none⟩ (.slice (some ⟨gl, 0, none⟩) ts[k].lv.length ts[k].lv.length)).setCell ⟨w.heap.size, k * 6 + 5, none⟩ (.slice (some ⟨gk, 0, none⟩) ts[k].kids.length ts[k].kids.length)) (by omega) hlt (hfl.mono (by omega)) (hfk.mono (by omega)) (fun P hP => Fr.set (Fr.set (Fr.set (Fr.set (Fr.set (Fr.set hP (p := ⟨_, _, _⟩) (by dsimp only; omega) _) (p := ⟨_, _, _⟩) (by dsimp only; omega) _) (p := ⟨_, _, _⟩) (by dsimp only; omega) _) (p := ⟨_, _, _⟩) (by dsimp only; omega) _) (p := ⟨_, _, _⟩) (by dsimp only; omega) _) (p := ⟨_, _, _⟩) (by dsimp only; omega) _))
      have HB2 := hide hbel2
      clear HX2 HX hfl hfk hown2 hownr s0 s1 s2 s3 s4 hb c1 c2 c3 c4 c5 c6 hbel2
      go_wp2_with fail
      go_roundw
      case rel => exact ⟨k + 1, _, by omega, by go_num, s5, HP, by simpa [World.setCell] using hsz2, (((((HB2.out.setCell (p := ⟨_, _, _⟩) (Nat.le_refl _) _).setCell (p := ⟨_, _, _⟩) (Nat.le_refl _) _).setCell (p := ⟨_, _, _⟩) (Nat.le_refl _) _).setCell (p := ⟨_, _, _⟩) (Nat.le_refl _) _).setCell (p := ⟨_, _, _⟩) (Nat.le_refl _) _).setCell (p := ⟨_, _, _⟩) (Nat.le_refl _) _⟩
      case measure => simp [intOf]; omega
    · have hall := TNodesIn.fr hownr rfl (by have := HX.out; rwa [show k = ts.length from by omega] at this)
      go_wp2_with fail
      go_ret
      exact ⟨_, rfl, hall, Nat.le_refl _, hbel⟩

set_option maxHeartbeats 1000000 in
theorem toTerm_fr (v : Value) (ts : List Td) (w : World) (hn : TNodesAt w v ts) (hl : ts.length ≤ 1048576) (hkl : ∀ td ∈ ts, TSmall td) :
    Calls Try.prog 54 #[.agg #[v]] w fun e w' => ∃ g, e = .returned (.agg #[.slice (some ⟨g, 0, none⟩) ts.length ts.length]) ∧ Fr w.heap.size w' (fun w => TNodesAt w (.slice (some ⟨g, 0, none⟩) ts.length ts.length) ts) ∧ w.heap.size ≤ g ∧ Below w.heap.size w w' := by
  have HN : Hid (∀ o1 o2 o3, TNodesAt (((w.alloc o1).alloc o2).alloc o3) v ts) := fun o1 o2 o3 => hn.keep ((((Below.refl w.heap.size w).alloc (Nat.le_refl _) o1).alloc (by simp) o2).alloc (by simp; omega) o3)
  have HK := hide hkl
  obtain ⟨a, cap, rfl, hlc, hcm, _⟩ := hn
  clear hkl
  go_enter Try.func54, Try.ntmps54
  go_wp2_with fail
  refine (toNodeS_fr _ ts _ (HN.out _ _ _) hl HK.out).mono ?_
  rintro e w1 ⟨g, rfl, hnodes, hg, hb⟩
  obtain ⟨hc, hf⟩ := bcell hb
  have hz : w.heap.size + 1 + 1 < w1.heap.size := by have := hb.size; simp at this; omega
  have hbel : Below w.heap.size w w1 := ((((Below.refl w.heap.size w).alloc (Nat.le_refl _) _).alloc (by simp) _).alloc (by simp; omega) _).trans (hb.mono (by simp; omega))
  simp only [World.size_alloc] at hc hf hg hnodes
  clear hb
  go_wp2_with fail
  refine bodyPost_ret (v := .agg #[.slice (some ⟨g, 0, none⟩) ts.length ts.length]) (by simp [results, go_sem, hc]) rfl ⟨g, rfl, ?_, by omega, ?_⟩
  · exact ((hnodes.set (p := ⟨_, _, _⟩) (by dsimp only; omega) _).set (p := ⟨_, _, _⟩) (by dsimp only; omega) _).mono (by omega)
  · exact (hbel.setCell (p := ⟨_, _, _⟩) (by show _ ≤ w.heap.size + 1 + 1; omega) _).setCell (p := ⟨_, _, _⟩) (by show _ ≤ w.heap.size + 1; omega) _
end Go.Proofs.Yteidnpmkbfkbcaa
