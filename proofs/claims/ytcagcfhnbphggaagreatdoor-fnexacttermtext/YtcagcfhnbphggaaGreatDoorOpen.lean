/- The walk of the law FnExactTermText. -/
import Derived.Test.YtcagcfhnbphggaaGreatDoorMkA
import Derived.Test.YtcagcfhnbphggaaGreatDoorMkC
import Derived.Test.YtcagcfhnbphggaaGreatDoorMkV
import Derived.Test.YtcagcfhnbphggaaGreatDoorTEq
import Derived.Test.YtcagcfhnbphggaaGreatDoorTTo
import Derived.Deep.RegionHeld3
import Derived.Deep.CutRange
import Derived.Deep.Upon
import Derived.Test.YtcagcfhnbphggaaGreatDoorMem
import Derived.Deep.Slices
import Derived.Deep.Strs
import Derived.Lib.SmallJoins
namespace Go.Proofs.YtcagcfhnbphggaaGreatDoor
open Go.ChangeShapes Go.WideShapes Go.ChangeAt Go.RowKit

/-- An owned row that lies in a range of blocks. -/
def RowIn (lo hi : Nat) (w : World) (v : Value) (n : Nat) (xs : List Value) : Prop := w.ownsRow lo 5 1 v n xs ∧ ∀ g, v.ownBlock = some g → g < hi
theorem RowIn.of {lo : Nat} {w : World} {v : Value} {n : Nat} {xs : List Value} (h : w.ownsRow lo 5 1 v n xs) : RowIn lo w.heap.size w v n xs := ⟨h, fun g hg => (World.ownsRow.lt h g hg).2⟩
theorem RowIn.same {lo hi : Nat} {w w' : World} {v : Value} {n : Nat} {xs : List Value} (h : RowIn lo hi w v n xs) (hh : ∀ b, lo ≤ b → b < hi → w'.heap[b]? = w.heap[b]?) : RowIn lo hi w' v n xs :=
  ⟨row_same h.1 (fun g hg => hh g (World.ownsRow.lt h.1 g hg).1 (h.2 g hg)), h.2⟩
theorem RowIn.keep {lo hi : Nat} {w w' : World} {v : Value} {n : Nat} {xs : List Value} (h : RowIn lo hi w v n xs) (hb : Below w.heap.size w w') : RowIn lo hi w' v n xs := ⟨row_keep hb h.1, h.2⟩
set_option maxRecDepth 100000 in
set_option maxHeartbeats 8000000 in
theorem tt_walk (v : Value) (ts : List Td) (w : World) (hn : TNodesAt w v ts) (hz : ∀ td ∈ ts, TLens td) (ht : Tabs w) :
    Calls Tryz.prog 3 #[.agg #[v]] w fun e w' => e = .returned (.bool true) ∧ Below w.heap.size w w' := by
  have HN := hide hn
  have HZ := hide hz
  have HTB := hide ht
  obtain ⟨a, cap, rfl, _, _, _⟩ := hn
  clear hz ht
  have b0 : Hid (∀ o, Below w.heap.size w (w.alloc o)) := fun o => bel_alloc (Below.refl _ _) o
  by_cases hbig : (1048576 : Int) < (tmSize ts : Nat)
  · have HL : Hid (leftOf 1048576 (tmSize ts) = -1) := by show leftOf _ _ = _; rw [leftOf, if_pos hbig]
    clear hbig
    go_enter Tryz.func3, Tryz.ntmps3
    go_wp2_with fail
    refine (szTerm_any _ ts _ _ (HN.out.keep (b0.out _)) HZ.out (by omega) (by omega)).mono ?_
    rintro e w1 ⟨rfl, hb1⟩
    rw [HL.out]
    have hbel1 := bel_trans (b0.out _) hb1
    clear hb1
    go_wp2_with fail
    go_ret
    exact ⟨rfl, hbel1⟩
  obtain ⟨M, hM⟩ : ∃ M : Int, M = 1048576 - (tmSize ts : Nat) := ⟨_, rfl⟩
  have hM0 : 0 ≤ M := by omega
  have HL : Hid (leftOf 1048576 (tmSize ts) = M) := by show leftOf _ _ = _; rw [leftOf, if_neg hbig, hM]
  have hlen : ts.length ≤ 1048576 := Nat.le_trans (show ts.length ≤ tmSize ts by unfold tmSize; omega) (by omega)
  have HSM := hide (tsmall_of (show tmSize ts ≤ 1048576 by omega))
  have HCT : Hid (costT ts ≤ 4200000) := by show _ ≤ _; have := costT_sum ts; unfold tmSize at hbig; omega
  have dM : decide (M < 0) = false := by simp; omega
  clear hbig hM
  have hAl := ttA_len ts
  have HSP : Hid (∀ (v : Value) (W : World), TNodesAt W v ts → Below w.heap.size w W → Calls Tryz.prog 5 #[.agg #[v]] W (TtOut (ttA ts) (ttOk ts) W)) := fun v W hv hb => spec_tt v ts W hv (HTB.out.keep hb) HZ.out (fun td h => (HSM.out td h).1)
  have HIM : Hid (∀ (v : Value) (W : World), TNodesAt W v ts → Below w.heap.size w W → Calls Tryz.prog 7 #[.agg #[v]] W (TtOut (ttA ts) (ttOk ts) W)) := fun v W hv hb => impl_tt v ts W hv (HTB.out.keep hb) HZ.out
  have HCP : Hid (∀ (v : Value) (w : World), TNodesAt w v ts → Calls Tryz.prog 6 #[.agg #[v]] w fun e w' => ∃ g, e = .returned (.agg #[.slice (some ⟨g, 0, none⟩) ts.length ts.length]) ∧ TsR w.heap.size w'.heap.size w' g ts.length ts.length ts ∧ w.heap.size ≤ g ∧ Below w.heap.size w w') := fun v w hv => toTerm_own v ts w hv hlen HSM.out
  generalize ttA ts = A at *
  generalize ttOk ts = ok at *
  have hself : (ok != ok) = false := by simp
  go_enter Tryz.func3, Tryz.ntmps3
  go_wp2_with fail
  refine (szTerm_any _ ts _ _ (HN.out.keep (b0.out _)) HZ.out (by omega) (by omega)).mono ?_
  rintro e w1 ⟨rfl, hb1⟩
  rw [HL.out]
  have cx := keep_cell (b := w.heap.size) (o := 0) (v := .slice a ts.length cap) hb1 (by simp [go_sem])
  have HB := hide (bel_trans (b0.out _) hb1)
  clear hb1 HL
  go_wp2_with fail
  refine (HCP.out _ _ (HN.out.keep HB.out)).mono ?_
  rintro e w2 ⟨g2, rfl, hn2, hg2, hb2⟩
  have cx := keep_cell hb2 cx
  have hx0 := lt_cell cx
  have HB := hide (bel_trans HB.out hb2)
  have HN2 := hide (hn2.nodes rfl)
  clear hb2 hn2
  go_wp2_with fail
  refine (HSP.out _ _ HN2.out HB.out).mono ?_
  rintro e w3 ⟨v4, rfl, ho4, hb3⟩
  have cx := keep_cell hb3 cx
  have HB := hide (bel_trans HB.out hb3)
  have HA4 := hide (RowIn.of ho4)
  have o1 := hb3.size
  clear hb3 ho4 HN2 HSP
  go_wp2_with fail
  refine (HCP.out _ _ (HN.out.keep HB.out)).mono ?_
  rintro e w5 ⟨g5, rfl, hn5, hg5, hb5⟩
  have cx := keep_cell hb5 cx
  have HB := hide (bel_trans HB.out hb5)
  have HA4 := hide (HA4.out.keep hb5)
  have o3 := hb5.size
  have HX := hide hn5
  clear hb5 hn5 hg5
  obtain ⟨W6, hW6⟩ : ∃ W6, W6 = w5.alloc (.cells #[.slice (some ⟨g5, 0, none⟩) ts.length ts.length] 31) := ⟨_, rfl⟩
  have hbW : Below w5.heap.size w5 W6 := by rw [hW6]; exact bel_alloc (Below.refl _ _) _
  have c10 : W6.cell? ⟨w5.heap.size, 0, none⟩ = some (.slice (some ⟨g5, 0, none⟩) ts.length ts.length) := by rw [hW6]; simp [go_sem]
  have o4 := lt_cell c10
  have cx := keep_cell hbW cx
  have HB := hide (bel_trans HB.out hbW)
  have HA4 := hide (HA4.out.keep hbW)
  have HX := hide (HX.out.keep hbW (Nat.le_refl _))
  go_upto_region 7 with fail
  rw [← hW6]
  clear hW6 hbW
  go_wp2_with fail
  refine (HIM.out _ _ (HX.out.nodes rfl) HB.out).mono ?_
  rintro e w7 ⟨v6, rfl, ho6, hb7⟩
  have o5 := hb7.size
  have cx := keep_cell hb7 cx
  have c10 := keep_cell hb7 c10
  have HB := hide (bel_trans HB.out hb7)
  have HA4 := hide (HA4.out.keep hb7)
  have HA6 := hide (RowIn.of ho6)
  have HX := hide (HX.out.keep hb7 (by omega))
  clear hb7 ho6
  go_wp2_with fail
  refine (eqByteS_any _ _ _ _ A _ HA6.out.1 HA4.out.1).mono ?_
  rintro e w9 ⟨rfl, n9, hw9⟩
  have hb9 : Below w7.heap.size w7 w9 := by rw [hw9]; exact below_drewN (Below.refl _ _) n9
  clear hw9
  have o7 := hb9.size
  have cx := keep_cell hb9 cx
  have c10 := keep_cell hb9 c10
  have HB := hide (bel_trans HB.out hb9)
  have HA4 := hide (HA4.out.keep hb9)
  have HA6 := hide (HA6.out.keep hb9)
  have HX := hide (HX.out.keep hb9 (by omega))
  clear hb9
  go_wp2_with fail
  go_region_held3 (fun w' => w'.cell? ⟨w5.heap.size, 0, none⟩ = some (.slice (some ⟨g5, 0, none⟩) ts.length ts.length) ∧ w'.cell? ⟨w.heap.size, 0, none⟩ = some (.slice a ts.length cap))
    (first
      | go_keep
      | (go_split_ands; exact ⟨keep_cell hb11 (by assumption), keep_cell hb11 (by assumption)⟩)
      | (go_split_ands; exact ⟨keep_cell hb10 (by assumption), keep_cell hb10 (by assumption)⟩)
      | fail)
    (first
      | (go_at_call 6; refine (HCP.out _ _ (by exact HN.out.keep HB.out.drew)).mono ?_; rintro e w10 ⟨g10, rfl, hn10, hg10, hb10⟩)
      | (go_at_call 9; refine (eqTerm_any _ _ ts _ (by exact (HX.out.nodes rfl).keep ((Below.refl w9.heap.size w9).drew.trans hb10)) (hn10.nodes rfl)).mono ?_; rintro e w11 ⟨rfl, hb11⟩)
      | fail)
  have hb9b : Below w9.heap.size w9 w11 := (Below.refl w9.heap.size w9).drew.trans (hb10.trans (hb11.mono hb10.size))
  clear hn10 hb10 hb11 hg10
  have o8 := hb9b.size
  have cx := keep_cell hb9b cx
  have c10 := keep_cell hb9b c10
  have HB := hide (bel_trans HB.out hb9b)
  have HA4 := hide (HA4.out.keep hb9b)
  have HA6 := hide (HA6.out.keep hb9b)
  have HX := hide (HX.out.keep hb9b (by omega))
  clear hb9b
  have HM1 := hide (markTerm_any w3.heap.size w5.heap.size g5 ts.length ts 1 w11 HX.out (by omega) HSM.out hlen (by omega) (by have := HCT.out; omega))
  rw [show ((1 : Nat) : Int) = 1 from rfl] at HM1
  obtain ⟨K1, hK1⟩ : ∃ K1, K1 = 1 + costT ts := ⟨_, rfl⟩
  rw [← hK1] at HM1
  have dK : decide ((K1 : Int) < 0) = false := by simp
  clear hK1
  go_wp2_with fail
  refine HM1.out.mono ?_
  rintro e w12 ⟨rfl, hc12⟩
  have o9 := hc12.1.size
  have cx := hc12.cell (by omega) cx
  have HB := hide (HB.out.trans (hc12.1.mono (by omega)))
  have HA4 := hide (HA4.out.same (fun b _ q => hc12.out (by omega) (by omega)))
  have HA6 := hide (HA6.out.same (fun b q _ => hc12.out (by omega) (by omega)))
  clear hc12 HM1 HX c10
  go_wp2_with fail
  refine (eqByteS_any _ _ _ _ A _ HA6.out.1 HA4.out.1).mono ?_
  rintro e w13 ⟨rfl, n13, hw13⟩
  have hb13 : Below w12.heap.size w12 w13 := by rw [hw13]; exact below_drewN (Below.refl _ _) n13
  clear hw13
  have o10 := hb13.size
  have cx := keep_cell hb13 cx
  have HB := hide (bel_trans HB.out hb13)
  have HA4 := hide (HA4.out.keep hb13)
  have HA6 := hide (HA6.out.keep hb13)
  clear hb13
  have HM2 := hide (markByteS_any W6.heap.size v6 A.length _ 1 w13 HA6.out.1 (by omega) (by omega))
  rw [show ((1 : Nat) : Int) = 1 from rfl] at HM2
  obtain ⟨K2, hK2⟩ : ∃ K2, K2 = 1 + A.length := ⟨_, rfl⟩
  have HK2 := hide hK2
  rw [← hK2] at HM2
  have hk50 : K2 ≤ 50000000 := by omega
  clear hK2
  go_wp2_with fail
  refine HM2.out.mono ?_
  rintro e w14 ⟨rfl, ho14, hg14⟩
  have o11 := hg14.size
  have hb14 : Below W6.heap.size w13 w14 := (Below.refl _ _).grown hg14 (by omega) (fun g hg => (World.ownsRow.lt HA6.out.1 g hg).1)
  have cx := (hb14.cell (p := ⟨w.heap.size, 0, none⟩) (show w.heap.size < W6.heap.size by omega)).trans cx
  have HB := hide (HB.out.trans (hb14.mono (by omega)))
  have HA4 := hide (HA4.out.same (fun b _ q => hb14.block b (by omega)))
  have HA6 : Hid (RowIn W6.heap.size w7.heap.size w14 v6 A.length (mB 1 A.length)) := ⟨ho14, HA6.out.2⟩
  clear hb14 hg14 ho14 HM2
  have HH := hide (show ∀ W, W.ownsRow W6.heap.size 5 1 v6 A.length (mB 1 A.length) → Calls Tryz.prog 12 #[v6, .int .i64 1] W fun e w' => e = .returned (.int .i64 (K2 : Int)) ∧ w' = W from fun W hW => by
    have := heldByteS_any W6.heap.size v6 A.length 1 W hW (by omega) (by omega)
    rw [← HK2.out] at this
    exact this)
  have hKK : ((K2 : Int) != (K2 : Int)) = false := by simp
  have dK2 : decide ((K2 : Int) < 0) = false := by simp
  go_wp2_with fail
  refine (HH.out _ HA6.out.1).mono ?_
  rintro e w15 ⟨rfl, hw15⟩
  rw [hw15]
  clear hw15 w15
  go_wp2_with fail
  refine (HCP.out _ _ (HN.out.keep HB.out)).mono ?_
  rintro e w16 ⟨g16, rfl, hn16, hg16, hb16⟩
  have o12 := hb16.size
  have HB := hide (bel_trans HB.out hb16)
  have HA4 := hide (HA4.out.keep hb16)
  have HA6 := hide (HA6.out.keep hb16)
  have HN16 := hide (hn16.nodes rfl)
  clear hb16 hn16 cx
  go_wp2_with fail
  refine (HIM.out _ _ HN16.out HB.out).mono ?_
  rintro e w17 ⟨v17, rfl, ho17, hb17⟩
  have o13 := hb17.size
  have HB := hide (bel_trans HB.out hb17)
  have HA4 := hide (HA4.out.keep hb17)
  have HA6 := hide (HA6.out.keep hb17)
  have HA17 := hide ho17
  clear hb17 ho17 HN16
  go_wp2_with fail
  refine (eqByteS_any _ _ _ _ A _ HA17.out HA4.out.1).mono ?_
  rintro e w19 ⟨rfl, n19, hw19⟩
  have hb19 : Below w17.heap.size w17 w19 := by rw [hw19]; exact below_drewN (Below.refl _ _) n19
  clear hw19
  have HB := hide (bel_trans HB.out hb19)
  have HA6 := hide (HA6.out.keep hb19)
  clear hb19
  go_wp2_with fail
  refine (HH.out _ HA6.out.1).mono ?_
  rintro e w20 ⟨rfl, hw20⟩
  rw [hw20]
  clear hw20 w20
  go_wp2_with fail
  go_ret
  exact ⟨rfl, HB.out⟩
end Go.Proofs.YtcagcfhnbphggaaGreatDoor

/- How a level that comes in as an argument is read: whatever was read as one lies in memory as a row of nodes. -/
namespace Go.Proofs.YtcagcfhnbphggaaGreatDoor
open Go.ChangeShapes Go.WideShapes Go.ChangeAt Go.RowKit Go.Deep

theorem Tryz.cells101 : Tryz.prog.cellsOf 101 = 1 := by kernel_rfl
theorem Tryz.cells99 : Tryz.prog.cellsOf 99 = 1 := by kernel_rfl
theorem Tryz.cells141 : Tryz.prog.cellsOf 141 = 3 := by kernel_rfl
theorem Tryz.cells3 : Tryz.prog.cellsOf 3 = 1 := by kernel_rfl
theorem Tryz.cells9 : Tryz.prog.cellsOf 9 = 1 := by kernel_rfl
theorem Tryz.cells52 : Tryz.prog.cellsOf 52 = 1 := by kernel_rfl

section
variable {H : Type} {enc : TypeId × Value → H} {W : World} {base : Nat} {held : Bool}

theorem addr_none {w : World} {a : Addr} {v : Value} (h : w.cell? (a.add 0) = some v) : ∃ b off, a = ⟨b, off, none⟩ := by
  obtain ⟨b, off, spot⟩ := a
  have hs := World.cell?_spot h
  simp [Addr.add] at hs
  exact ⟨b, off, by rw [hs]⟩
theorem list3 {α : Type} {l : List α} (h : l.length = 3) : ∃ a b c, l = [a, b, c] := by
  match l, h with
  | [a, b, c], _ => exact ⟨a, b, c, rfl⟩

theorem open_kids {fuel : Nat} {kv : Value} {x : DataW H × List MemPlace} (h : DataW.trod enc Tryz.prog W base (fun _ => true) held fuel 52 [kv] = some x) : ∃ ks, IntsAt W kv ks := by
  rcases open_ints Tryz.underlying52 Tryz.underlying3 Tryz.cells3 h with ⟨hcs, _⟩ | ⟨a, len, cap, zs, hcs, _, hl, hm, hz, _, hcell, _⟩
  · simp at hcs
    exact ⟨[], none, 0, hcs, by simp, by unfold maxLen; omega, fun h => by simp at h⟩
  · simp at hcs hz
    have hlen : (zs.take len).length = len := by simp; omega
    refine ⟨zs.take len, some a, cap, by rw [hlen]; exact hcs, by omega, hm, fun h0 => ?_⟩
    have h1 := hcell 0 (by omega)
    obtain ⟨b, off, rfl⟩ := addr_none h1
    refine ⟨b, off, rfl, fun j hj => ?_⟩
    have h2 := hcell j (by omega)
    rw [Addr.add_lit] at h2
    rw [h2]
    simp [List.getD, show j < zs.length from by omega]

theorem open_nodes {fuel : Nat} {v : Value} {x : DataW H × List MemPlace} (h : DataW.trod enc Tryz.prog W base (fun _ => true) held fuel 99 [v] = some x) : ∃ ns, NodesAt W v ns ∧ ∀ nd ∈ ns, nd.s.size ≤ maxLen := by
  rcases open_slice Tryz.underlying99 h with ⟨hcs, _⟩ | ⟨a, len, cap, m, n, D, Pl, hcs, _, hl, hm, hmm, _, hel⟩
  · simp at hcs
    exact ⟨[], ⟨none, 0, hcs, by simp, by unfold maxLen; omega, fun h => by simp at h⟩, by simp⟩
  · simp at hcs hmm
    subst hmm
    rw [Tryz.cells141] at hel
    have each : ∀ i, i < len → ∃ nd : Nd, nd.s.size ≤ maxLen ∧ W.cell? (a.add (i * 3)) = some (.int .i64 nd.k) ∧ W.cell? ((a.add (i * 3)).add 1) = some (.string nd.s) ∧ ∃ kv, W.cell? ((a.add (i * 3)).add 2) = some kv ∧ IntsAt W kv nd.kids := by
      intro i hi
      obtain ⟨cs, hc1, hc2⟩ := hel i (by omega)
      obtain ⟨hb, hlen, hcell⟩ := World.cells?_some hc1
      obtain ⟨y0, y1, y2, n', _, _, t0, t1, t2⟩ := trod_struct3 Tryz.underlying141 hc2
      obtain ⟨c0, c1, c2, rfl⟩ := list3 hlen
      simp [Tryz.cells3, Tryz.cells9, Tryz.cells52] at t0 t1 t2
      obtain ⟨k, e0, _, _⟩ := DataW.trod_int Tryz.underlying3 t0
      obtain ⟨s, e1, _, hs⟩ := DataW.trod_string Tryz.underlying9 t1
      obtain ⟨ks, hk⟩ := open_kids t2
      simp at e0 e1
      subst e0 e1
      refine ⟨⟨k, s, ks⟩, hs, ?_, ?_, c2, ?_, hk⟩
      · have := hcell 0 (by omega); simpa [Addr.add] using this
      · have := hcell 1 (by omega); simpa using this
      · have := hcell 2 (by omega); simpa using this
    haveI : Inhabited Nd := ⟨⟨0, ⟨#[]⟩, []⟩⟩
    obtain ⟨f, hf⟩ := choose_lt (α := Nd) (p := fun i nd => nd.s.size ≤ maxLen ∧ W.cell? (a.add (i * 3)) = some (.int .i64 nd.k) ∧ W.cell? ((a.add (i * 3)).add 1) = some (.string nd.s) ∧ ∃ kv, W.cell? ((a.add (i * 3)).add 2) = some kv ∧ IntsAt W kv nd.kids) each
    refine ⟨(List.range len).map f, ⟨some a, _, by simpa using hcs, by simpa using hl, hm, fun h0 => ?_⟩, ?_⟩
    · have h0' : 0 < len := by simpa using h0
      obtain ⟨_, g1, _⟩ := hf 0 h0'
      rw [Nat.zero_mul] at g1
      obtain ⟨b, off, rfl⟩ := addr_none g1
      refine ⟨b, off, rfl, fun i hi => ?_⟩
      have hi' : i < len := by simpa using hi
      obtain ⟨_, q1, q2, kv, q3, q4⟩ := hf i hi'
      simp only [Addr.add_lit] at q1 q2 q3
      simp only [List.getElem_map, List.getElem_range]
      exact ⟨q1, q2, kv, q3, q4⟩
    · intro nd hnd
      simp at hnd
      obtain ⟨i, hi, rfl⟩ := hnd
      exact (hf i hi).1
theorem array1 {α : Type} {a : Array α} (h : a.size = 1) : ∃ x, a = #[x] := by
  obtain ⟨l⟩ := a
  match l, h with
  | [x], _ => exact ⟨x, rfl⟩
end
end Go.Proofs.YtcagcfhnbphggaaGreatDoor
