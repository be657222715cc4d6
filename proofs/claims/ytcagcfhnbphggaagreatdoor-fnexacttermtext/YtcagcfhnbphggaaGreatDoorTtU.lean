/- The specification's writing of a constant. -/
import Derived.Test.YtcagcfhnbphggaaGreatDoorTtG
import Derived.Deep.AppendLies
import Derived.Deep.CutRange
namespace Go.Proofs.YtcagcfhnbphggaaGreatDoor
open Go.ChangeShapes Go.WideShapes Go.ChangeAt Go.RowKit

theorem zero_any (i : Int) (w : World) : Calls Tryz.prog 29 #[.int .i64 i] w fun e w' => e = .returned (.int .i64 (if i = 0 then 1 else 0)) ∧ w' = w := by
  by_cases h : i = 0
  · rw [if_pos h]
    subst h
    go_enter Tryz.func29, Tryz.ntmps29
    go_wp2
    go_ret
    exact ⟨rfl, rfl⟩
  · rw [if_neg h]
    have h2 : (i == 0) = false := by simp [h]
    go_enter Tryz.func29, Tryz.ntmps29
    go_wp2
    go_ret
    exact ⟨rfl, rfl⟩
theorem app_own2 {B : Nat} {w w2 w' : World} {v v' : Value} {P : List UInt8} {S : ByteArray} (hb : Below B w w2) (hown : w2.ownsRow B 5 1 v P.length (bC P)) (h : w'.ownsRow B 5 1 v' (P.length + S.size) (bC P ++ bC S.data.toList)) (hg : w2.grownBy w' v.ownBlock) (hB : B ≤ w2.heap.size) : w'.ownsRow B 5 1 v' (P ++ S.data.toList).length (bC (P ++ S.data.toList)) ∧ Below B w w' := by
  refine ⟨?_, hb.grown hg hB (fun g hg => (World.ownsRow.lt hown g hg).1)⟩
  rw [List.length_append, bC_app, Array.length_toList]
  exact h
theorem lit_cells (W : World) (S : List UInt8) : ∀ j u, (bC S)[j]? = some u → (W.alloc (.cells (bC S).toArray 5)).cell? ((⟨W.heap.size, 0, none⟩ : Addr).add j) = some u := by
  intro j u hu
  rw [Addr.add_lit, Nat.zero_add, cell_of_row _ _ _ _ _ _ (heap_alloc_new _ _)]
  simpa using hu
set_option maxRecDepth 20000 in
set_option maxHeartbeats 16000000 in
theorem sp_const {w1 : World} {p : Nat} {td : Td} {Q : Nat → Prop} {kp : List Nat} {z : Zs} (hf : FnAt Q w1 p td kp z) (hn : NodeOk td) (hk : td.k = 3) (bs : List UInt8) (v : Value) (w : World) (hb1 : Below w1.heap.size w1 w) (hown : w.ownsRow w1.heap.size 5 1 v bs.length (bC bs)) (hl : bs.length ≤ 400000) :
    Calls Tryz.prog 16 #[.pointer (some ⟨p, 0, none⟩), v] w (SpOut w1.heap.size (bs ++ constT td) w) := by
  obtain ⟨i5, hi5, hz5, hs5, hb5⟩ := info_parts Tryz.info5
  have HO := hide hown
  have HB1 := hide hb1
  obtain ⟨a, cap, rfl⟩ := own_form hown
  have hbig' : ¬ (400000 : Int) < (bs.length : Int) := by omega
  obtain ⟨lvv, kdv, d0, d1, d2, d3, d4, d5, _, hlr⟩ := fn_cells hf
  have c0 := keep_cell hb1 d0
  have c3 := keep_cell hb1 d3
  have hsz := hb1.size
  have hl4 : p < w1.heap.size := lt_cell d4
  obtain ⟨la, lc, rfl, _, hlm, hlt⟩ := lev_tree hlr
  have HLT := hide hlt
  have HTL := hide (lvsT_len hn.lev)
  have hlv6 := hn.lvs
  have q1 : (td.k == 1) = false := by rw [hk]; decide
  have q9 : (td.k == 9) = false := by rw [hk]; decide
  have q2 : (td.k == 2) = false := by rw [hk]; decide
  have q3 : (td.k == 3) = true := by rw [hk]; decide
  unfold maxLen at hlm
  have hs40 : td.s.size ≤ 40 := hn.str
  have HSD : Hid (td.s.data.toList.length = td.s.size) := Array.length_toList
  have D4 := hide d4
  have HCV0 := conv_any td.s
  clear hown d0 d1 d2 d3 d4 d5 hk hlt hlr hb1
  go_enter Tryz.func16, Tryz.ntmps16
  go_wp2_with (first
    | (at_builtin
       refine wpList_append_own _ rfl _ _ 26 rfl w1.heap.size 5 i5 (.int .u8 0) 1 1 Tryz.underlying26 hi5 hz5 hs5 hb5 rfl (by omega) (.slice a bs.length cap) bs.length (bC bs) rfl (row_keep (Go.Joins.below_bytesWorld _ _ 5 td.s (Nat.le_refl _)) HO.out) ⟨w.heap.size, 0, none⟩ td.s.size _ (bC td.s.data.toList) rfl (bC_size td.s) (conv_cells td.s w) (bC_one _) (by unfold maxLen; omega) (by omega) (by rw [Lib.bytesWorld_size]; omega) ?_
       intro v7 w7 hown7 hgrow7 _)
    | fail)
  obtain ⟨r1, r2⟩ := app_own (Go.Joins.below_bytesWorld _ _ 5 td.s (Nat.le_refl _)) hsz HO.out hown7 hgrow7
  obtain ⟨a7, c7, rfl⟩ := own_form hown7
  have HV7 : Hid (w7.ownsRow w1.heap.size 5 1 (.slice a7 (bs.length + td.s.size) c7) (bs ++ (td.s.data.toList ++ lvsT td.lv 0)).length (bC (bs ++ (td.s.data.toList ++ lvsT td.lv 0)))) := by
    show World.ownsRow _ _ _ _ _ _ _
    simp only [lvsT, List.append_nil]
    exact r1
  have HB7 := hide r2
  clear hown7 hgrow7 r1 r2 HCV0 c0 c3
  go_loopw [1, 5] (fun ov iv wr => ∃ (j : Nat) (v' : Value), iv = .int .i64 j ∧ v' = ov ∧ j ≤ td.lv.length ∧ Hid (wr.ownsRow w1.heap.size 5 1 v' (bs ++ (td.s.data.toList ++ lvsT td.lv j)).length (bC (bs ++ (td.s.data.toList ++ lvsT td.lv j)))) ∧ Hid (Below w1.heap.size w wr)) (fun _ iv _ => td.lv.length - (intOf iv).toNat)
  case atStart => exact ⟨0, _, rfl, rfl, by omega, HV7, HB7⟩
  case round =>
    clear HV7 HB7
    obtain ⟨j, v', rfl, rfl, hj, HV, HB⟩ := hrel
    have HBR := hide (HB1.out.trans HB.out)
    have c4 := (HBR.out.cell (p := ⟨p, 4, none⟩) hl4).trans D4.out
    have hsr := HBR.out.size
    by_cases hlt : j < td.lv.length
    · have hlt' : (j : Int) < (td.lv.length : Int) := by omega
      obtain ⟨lb, lo, g, t, rfl, cg, ht, hlv⟩ := HLT.out j hlt
      have hlb : lb < w1.heap.size := lt_cell cg
      have hmem : td.lv[j] ∈ td.lv := List.getElem_mem hlt
      have hvl := hn.lev _ hmem
      have HSL0 := hide (txtL_size hvl)
      have HTX : Hid (∀ W, Below w1.heap.size wr W → Calls Tryz.prog 28 #[.pointer (some ⟨g, 0, none⟩)] W fun e w' => e = .returned (.string (txtL td.lv[j])) ∧ Below W.heap.size W w') := by
        show ∀ W, _
        intro W hW
        exact ltext_any _ t g W ((ht.keep (HBR.out.trans hW)).mono (by have := hW.size; omega)) hlv hvl
      have HSN : Hid (lvsT td.lv (j + 1) = lvsT td.lv j ++ ((if j = 0 then 123 else 44) :: (txtL td.lv[j]).data.toList)) := by
        show _ = _
        conv => lhs; unfold lvsT
        rw [List.getD_eq_getElem?_getD, List.getElem?_eq_getElem hlt]
        rfl
      have hX : (txtL td.lv[j]).size ≤ 3840 := by have := HSL0.out; rw [Array.length_toList] at this; exact this
      have hPl : (bs ++ (td.s.data.toList ++ lvsT td.lv j)).length ≤ 600000 := by
        have h1 := HTL.out j hj
        have h2 := HSD.out
        rw [List.length_append, List.length_append]
        omega
      generalize txtL td.lv[j] = X at *
      obtain ⟨P, hP⟩ : ∃ P, P = bs ++ (td.s.data.toList ++ lvsT td.lv j) := ⟨_, rfl⟩
      rw [← hP] at HV hPl
      have HPE := hide hP
      obtain ⟨oa, oc, rfl⟩ := own_form HV.out
      clear hP ht hlv hmem hvl HSL0
      go_upto_region 14 with fail
      by_cases hj0 : j = 0
      · have HJ0 := hide hj0
        have HZE : Hid (∀ W : World, Calls Tryz.prog 29 #[.int .i64 (j : Int)] W fun e w' => e = .returned (.int .i64 1) ∧ w' = W) := by
          show ∀ W : World, _
          intro W
          have h1 := zero_any (j : Int) W
          rw [if_pos (by omega)] at h1
          exact h1
        have HIX : Hid ((#[.string ⟨#[123]⟩, .string ⟨#[44]⟩] : Array Value)[0]? = some (.string ⟨#[123]⟩)) := rfl
        obtain ⟨S, hS⟩ : ∃ S : ByteArray, S = ⟨#[123]⟩ ++ X := ⟨_, rfl⟩
        have HSE := hide hS
        have HAD : Hid (¬ 9223372036854775807 < 1 + X.size) := by show ¬ _; omega
        have HCV := conv_any S
        have hS1 : 0 < S.size := by rw [hS, ByteArray.size_append]; show 0 < 1 + X.size; omega
        have hS2 : S.size ≤ 4000 := by rw [hS, ByteArray.size_append]; show 1 + X.size ≤ 4000; omega
        have HSL : Hid (P ++ S.data.toList = bs ++ (td.s.data.toList ++ lvsT td.lv (j + 1))) := by
          show _ = _
          rw [HSN.out, HPE.out, if_pos HJ0.out, hS]
          simp
        clear hS hj0
        obtain ⟨x0, hx0⟩ : ∃ X, X = wr.drew := ⟨_, rfl⟩
        have Bx0 : Below w1.heap.size wr x0 := by rw [hx0]; exact (Below.refl _ _).drew
        have Ox0 := hide (row_keep (show Below wr.heap.size wr x0 by rw [hx0]; exact (Below.refl _ _).drew) HV.out)
        refine anyE_region (L := 99) (S := fun w' => Below w1.heap.size wr w') (by kernel_rfl) ?_
        rw [← hx0]
        clear hx0
        refine anyE_take2 0 (v := ?v1) rfl (by kernel_rfl) (by kernel_rfl) (by kernel_rfl) (by kernel_rfl) (fun _ _ _ h => h) (by rfl) ?hy1 Bx0 ?rest1
        case hy1 =>
          intro wx hx
          go_simp
          try rfl
        case rest1 =>
        intro K hK
        go_simp
        refine hK.out _ ?_
        clear hK K
        refine anyE_take2 2 (v := ?v2) rfl (by kernel_rfl) (by kernel_rfl) (by kernel_rfl) (by kernel_rfl) (fun _ _ _ h => h) (by rfl) ?hy2 Bx0 ?rest2
        case hy2 =>
          intro wx hx
          go_simp
          try rfl
        case rest2 =>
        intro K hK
        go_simp
        refine hK.out _ ?_
        clear hK K
        refine anyE_take2 7 (v := ?v3) rfl (by kernel_rfl) (by kernel_rfl) (by kernel_rfl) (by kernel_rfl) (fun _ _ _ h => h) (by rfl) ?hy3 Bx0 ?rest3
        case hy3 =>
          intro wx hx
          go_simp
          try rfl
        case rest3 =>
        intro K hK
        go_simp
        refine hK.out _ ?_
        clear hK K
        refine anyE_take2 8 (v := ?v4) rfl (by kernel_rfl) (by kernel_rfl) (by kernel_rfl) (by kernel_rfl) (fun _ _ _ h => h) (by rfl) ?hy4 Bx0 ?rest4
        case hy4 =>
          intro wx hx
          go_simp
          try rfl
        case rest4 =>
        intro K hK
        go_simp
        refine hK.out _ ?_
        clear hK K
        refine anyE_take2 9 (v := ?v5) rfl (by kernel_rfl) (by kernel_rfl) (by kernel_rfl) (by kernel_rfl) (fun _ _ _ h => h) (by rfl) ?hy5 Bx0 ?rest5
        case hy5 =>
          intro wx hx
          go_simp
          try rfl
        case rest5 =>
        intro K hK
        go_simp
        refine hK.out _ ?_
        clear hK K
        refine anyE_take2 10 (v := ?v6) rfl (by kernel_rfl) (by kernel_rfl) (by kernel_rfl) (by kernel_rfl) (fun _ _ _ h => h) (by rfl) ?hy6 Bx0 ?rest6
        case hy6 =>
          intro wx hx
          have m4 := ((HBR.out.trans hx).cell (p := ⟨p, 4, none⟩) hl4).trans D4.out
          have m5 := ((HBR.out.trans hx).cell (p := ⟨lb, lo + j, none⟩) hlb).trans cg
          go_simp
          try rfl
        case rest6 =>
        intro K hK
        go_simp
        refine hK.out _ ?_
        clear hK K
        refine anyE_take2 11 (v := ?v7) rfl (by kernel_rfl) (by kernel_rfl) (by kernel_rfl) (by kernel_rfl) (fun _ _ _ h => h) (by rfl) ?hy7 Bx0 ?rest7
        case hy7 =>
          intro wx hx
          go_simp
          try rfl
        case rest7 =>
        intro K hK
        go_simp
        refine hK.out _ ?_
        clear hK K
        refine anyE_take2 12 (v := ?v8) rfl (by kernel_rfl) (by kernel_rfl) (by kernel_rfl) (by kernel_rfl) (fun _ _ _ h => h) (by rfl) ?hy8 Bx0 ?rest8
        case hy8 =>
          intro wx hx
          go_simp
          try rfl
        case rest8 =>
        intro K hK
        go_simp
        refine hK.out _ ?_
        clear hK K
        refine anyE_take2 13 (v := ?v9) rfl (by kernel_rfl) (by kernel_rfl) (by kernel_rfl) (by kernel_rfl) (fun _ _ _ h => h) (by rfl) ?hy9 Bx0 ?rest9
        case hy9 =>
          intro wx hx
          have m4 := ((HBR.out.trans hx).cell (p := ⟨p, 4, none⟩) hl4).trans D4.out
          have m5 := ((HBR.out.trans hx).cell (p := ⟨lb, lo + j, none⟩) hlb).trans cg
          go_simp
          try rfl
        case rest9 =>
        intro K hK
        go_simp
        refine hK.out _ ?_
        clear hK K
        refine anyE_two 1 3 (by kernel_rfl) rfl rfl (fun K hK => ?_) (fun K hK => ?_)
        · go_simp
          obtain ⟨x1, hx1⟩ : ∃ X, X = x0.alloc (.cells #[.string ⟨#[123]⟩, .string ⟨#[44]⟩] 9) := ⟨_, rfl⟩
          rw [← hx1]
          have bx1 : Below x0.heap.size x0 x1 := by rw [hx1]; exact bel_alloc (Below.refl _ _) _
          have zx1 := Bx0.size
          have Bx1 : Below w1.heap.size wr x1 := Bx0.trans (bx1.mono (by omega))
          have lx1 : x1.cell? ⟨x0.heap.size, 0, none⟩ = some (.string ⟨#[123]⟩) := by rw [hx1, cell_of_row _ _ _ _ _ _ (heap_alloc_new _ _)]; exact HIX.out
          have Ox1 := hide (row_keep bx1 Ox0.out)
          refine hK.out _ _ (fun _ => Bx1) ?_
          clear hK K hx1 bx1
          refine anyE_one 3 (by kernel_rfl) rfl (fun K hK => ?_)
          go_simp
          refine (HZE.out _).mono ?_
          rintro e wq ⟨rfl, hwq⟩
          rw [hwq]
          clear hwq wq
          refine hK.out _ _ (fun _ => Bx1) ?_
          clear hK K
          refine anyE_take2 4 (v := ?v10) rfl (by kernel_rfl) (by kernel_rfl) (by kernel_rfl) (by kernel_rfl) (fun _ _ _ h => h) (by rfl) ?hy10 Bx1 ?rest10
          case hy10 =>
            intro wx hx
            go_simp
            try rfl
          case rest10 =>
          intro K hK
          go_simp
          refine hK.out _ ?_
          clear hK K
          refine anyE_take2 5 (v := ?v11) rfl (by kernel_rfl) (by kernel_rfl) (by kernel_rfl) (by kernel_rfl) (fun _ _ _ h => h) (by rfl) ?hy11 Bx1 ?rest11
          case hy11 =>
            intro wx hx
            go_simp
            try rfl
          case rest11 =>
          intro K hK
          go_simp
          refine hK.out _ ?_
          clear hK K
          refine anyE_two 6 14 (by kernel_rfl) rfl rfl (fun K hK => ?_) (fun K hK => ?_)
          · have hwx : (IntKind.i64.wrap 0).toNat = 0 := by decide
            go_simp
            refine hK.out _ _ (fun _ => Bx1) ?_
            clear hK K
            refine anyE_one 14 (by kernel_rfl) rfl (fun K hK => ?_)
            go_simp
            refine (HTX.out _ Bx1).mono ?_
            rintro e x2 ⟨rfl, bx2⟩
            have zx2 := Bx1.size
            have Bx2 : Below w1.heap.size wr x2 := Bx1.trans (bx2.mono (by omega))
            have lx2 := keep_cell bx2 lx1
            have Ox2 := hide (row_keep bx2 Ox1.out)
            refine hK.out _ _ (fun _ => Bx2) ?_
            clear hK K bx2
            refine anyE_one 15 (by kernel_rfl) rfl (fun K hK => ?_)
            go_simp
            rw [if_neg HAD.out, ← HSE.out]
            refine hK.out _ _ (fun _ => Bx2) ?_
            clear hK K
            refine anyE_one 16 (by kernel_rfl) rfl (fun K hK => ?_)
            go_simp
            obtain ⟨x3, hx3⟩ : ∃ X, X = Lib.bytesWorld x2 5 S := ⟨_, rfl⟩
            rw [← hx3]
            have bx3 : Below x2.heap.size x2 x3 := by rw [hx3]; exact Go.Joins.below_bytesWorld _ _ 5 S (Nat.le_refl _)
            have zx3 := Bx2.size
            have yx3 := bx3.size
            have Bx3 : Below w1.heap.size wr x3 := Bx2.trans (bx3.mono (by omega))
            have cx3 : ∀ j u, (bC S.data.toList)[j]? = some u → x3.cell? ((⟨x2.heap.size, 0, none⟩ : Addr).add j) = some u := by rw [hx3]; exact conv_cells S _
            have Ox3 := hide (row_keep bx3 Ox2.out)
            refine hK.out _ _ (fun _ => Bx3) ?_
            clear hK K hx3 bx3
            refine anyE_one 17 (by kernel_rfl) rfl (fun K hK => ?_)
            refine step_append_lies _ (by rfl) _ _ 26 (by rfl) w1.heap.size 5 i5 (.int .u8 0) 1 1 Tryz.underlying26 hi5 hz5 hs5 hb5 rfl (by omega) (.slice oa P.length oc) P.length (bC P) (by rfl) Ox3.out ⟨x2.heap.size, 0, none⟩ S.size _ (bC S.data.toList) (by rfl) (bC_size S) cx3 (bC_one _) hS1 (by unfold maxLen; omega) (by omega) (by omega) _ rfl ?_
            intro g9 c9 w9 hown9 hgrow9 _ _
            have hr := app_own2 Bx3 Ox3.out hown9 hgrow9 (by omega)
            refine hK.out _ _ (fun _ => hr.2) ?_
            clear hK K
            refine anyE_one 18 (by kernel_rfl) rfl (fun K hK => ?_)
            go_simp
            refine hK.out _ _ (fun _ => hr.2) ?_
            clear hK K
            refine anyE_done (by kernel_rfl) ?_ _
            have ho9 := hr.1
            rw [HSL.out] at ho9
            have HV9 := hide ho9
            have HB9 := hide (HB.out.trans hr.2)
            clear hown9 hgrow9 hr ho9
            go_wp2_with fail
            go_roundw
            case rel => exact ⟨j + 1, _, by go_num, rfl, by omega, HV9, HB9⟩
            case measure => simp [intOf]; omega
          · go_simp
            refine (HTX.out _ Bx1).mono ?_
            rintro e x2 ⟨rfl, bx2⟩
            have zx2 := Bx1.size
            have Bx2 : Below w1.heap.size wr x2 := Bx1.trans (bx2.mono (by omega))
            have lx2 := keep_cell bx2 lx1
            have Ox2 := hide (row_keep bx2 Ox1.out)
            refine hK.out _ _ (fun _ => Bx2) ?_
            clear hK K bx2
            refine anyE_one 6 (by kernel_rfl) rfl (fun K hK => ?_)
            have hwx : (IntKind.i64.wrap 0).toNat = 0 := by decide
            go_simp
            refine hK.out _ _ (fun _ => Bx2) ?_
            clear hK K
            refine anyE_one 15 (by kernel_rfl) rfl (fun K hK => ?_)
            go_simp
            rw [if_neg HAD.out, ← HSE.out]
            refine hK.out _ _ (fun _ => Bx2) ?_
            clear hK K
            refine anyE_one 16 (by kernel_rfl) rfl (fun K hK => ?_)
            go_simp
            obtain ⟨x3, hx3⟩ : ∃ X, X = Lib.bytesWorld x2 5 S := ⟨_, rfl⟩
            rw [← hx3]
            have bx3 : Below x2.heap.size x2 x3 := by rw [hx3]; exact Go.Joins.below_bytesWorld _ _ 5 S (Nat.le_refl _)
            have zx3 := Bx2.size
            have yx3 := bx3.size
            have Bx3 : Below w1.heap.size wr x3 := Bx2.trans (bx3.mono (by omega))
            have cx3 : ∀ j u, (bC S.data.toList)[j]? = some u → x3.cell? ((⟨x2.heap.size, 0, none⟩ : Addr).add j) = some u := by rw [hx3]; exact conv_cells S _
            have Ox3 := hide (row_keep bx3 Ox2.out)
            refine hK.out _ _ (fun _ => Bx3) ?_
            clear hK K hx3 bx3
            refine anyE_one 17 (by kernel_rfl) rfl (fun K hK => ?_)
            refine step_append_lies _ (by rfl) _ _ 26 (by rfl) w1.heap.size 5 i5 (.int .u8 0) 1 1 Tryz.underlying26 hi5 hz5 hs5 hb5 rfl (by omega) (.slice oa P.length oc) P.length (bC P) (by rfl) Ox3.out ⟨x2.heap.size, 0, none⟩ S.size _ (bC S.data.toList) (by rfl) (bC_size S) cx3 (bC_one _) hS1 (by unfold maxLen; omega) (by omega) (by omega) _ rfl ?_
            intro g9 c9 w9 hown9 hgrow9 _ _
            have hr := app_own2 Bx3 Ox3.out hown9 hgrow9 (by omega)
            refine hK.out _ _ (fun _ => hr.2) ?_
            clear hK K
            refine anyE_one 18 (by kernel_rfl) rfl (fun K hK => ?_)
            go_simp
            refine hK.out _ _ (fun _ => hr.2) ?_
            clear hK K
            refine anyE_done (by kernel_rfl) ?_ _
            have ho9 := hr.1
            rw [HSL.out] at ho9
            have HV9 := hide ho9
            have HB9 := hide (HB.out.trans hr.2)
            clear hown9 hgrow9 hr ho9
            go_wp2_with fail
            go_roundw
            case rel => exact ⟨j + 1, _, by go_num, rfl, by omega, HV9, HB9⟩
            case measure => simp [intOf]; omega
        · go_simp
          refine (HZE.out _).mono ?_
          rintro e wq ⟨rfl, hwq⟩
          rw [hwq]
          clear hwq wq
          refine hK.out _ _ (fun _ => Bx0) ?_
          clear hK K
          refine anyE_take2 4 (v := ?v12) rfl (by kernel_rfl) (by kernel_rfl) (by kernel_rfl) (by kernel_rfl) (fun _ _ _ h => h) (by rfl) ?hy12 Bx0 ?rest12
          case hy12 =>
            intro wx hx
            go_simp
            try rfl
          case rest12 =>
          intro K hK
          go_simp
          refine hK.out _ ?_
          clear hK K
          refine anyE_two 1 14 (by kernel_rfl) rfl rfl (fun K hK => ?_) (fun K hK => ?_)
          · go_simp
            obtain ⟨x1, hx1⟩ : ∃ X, X = x0.alloc (.cells #[.string ⟨#[123]⟩, .string ⟨#[44]⟩] 9) := ⟨_, rfl⟩
            rw [← hx1]
            have bx1 : Below x0.heap.size x0 x1 := by rw [hx1]; exact bel_alloc (Below.refl _ _) _
            have zx1 := Bx0.size
            have Bx1 : Below w1.heap.size wr x1 := Bx0.trans (bx1.mono (by omega))
            have lx1 : x1.cell? ⟨x0.heap.size, 0, none⟩ = some (.string ⟨#[123]⟩) := by rw [hx1, cell_of_row _ _ _ _ _ _ (heap_alloc_new _ _)]; exact HIX.out
            have Ox1 := hide (row_keep bx1 Ox0.out)
            refine hK.out _ _ (fun _ => Bx1) ?_
            clear hK K hx1 bx1
            refine anyE_take2 5 (v := ?v13) rfl (by kernel_rfl) (by kernel_rfl) (by kernel_rfl) (by kernel_rfl) (fun _ _ _ h => h) (by rfl) ?hy13 Bx1 ?rest13
            case hy13 =>
              intro wx hx
              go_simp
              try rfl
            case rest13 =>
            intro K hK
            go_simp
            refine hK.out _ ?_
            clear hK K
            refine anyE_two 6 14 (by kernel_rfl) rfl rfl (fun K hK => ?_) (fun K hK => ?_)
            · have hwx : (IntKind.i64.wrap 0).toNat = 0 := by decide
              go_simp
              refine hK.out _ _ (fun _ => Bx1) ?_
              clear hK K
              refine anyE_one 14 (by kernel_rfl) rfl (fun K hK => ?_)
              go_simp
              refine (HTX.out _ Bx1).mono ?_
              rintro e x2 ⟨rfl, bx2⟩
              have zx2 := Bx1.size
              have Bx2 : Below w1.heap.size wr x2 := Bx1.trans (bx2.mono (by omega))
              have lx2 := keep_cell bx2 lx1
              have Ox2 := hide (row_keep bx2 Ox1.out)
              refine hK.out _ _ (fun _ => Bx2) ?_
              clear hK K bx2
              refine anyE_one 15 (by kernel_rfl) rfl (fun K hK => ?_)
              go_simp
              rw [if_neg HAD.out, ← HSE.out]
              refine hK.out _ _ (fun _ => Bx2) ?_
              clear hK K
              refine anyE_one 16 (by kernel_rfl) rfl (fun K hK => ?_)
              go_simp
              obtain ⟨x3, hx3⟩ : ∃ X, X = Lib.bytesWorld x2 5 S := ⟨_, rfl⟩
              rw [← hx3]
              have bx3 : Below x2.heap.size x2 x3 := by rw [hx3]; exact Go.Joins.below_bytesWorld _ _ 5 S (Nat.le_refl _)
              have zx3 := Bx2.size
              have yx3 := bx3.size
              have Bx3 : Below w1.heap.size wr x3 := Bx2.trans (bx3.mono (by omega))
              have cx3 : ∀ j u, (bC S.data.toList)[j]? = some u → x3.cell? ((⟨x2.heap.size, 0, none⟩ : Addr).add j) = some u := by rw [hx3]; exact conv_cells S _
              have Ox3 := hide (row_keep bx3 Ox2.out)
              refine hK.out _ _ (fun _ => Bx3) ?_
              clear hK K hx3 bx3
              refine anyE_one 17 (by kernel_rfl) rfl (fun K hK => ?_)
              refine step_append_lies _ (by rfl) _ _ 26 (by rfl) w1.heap.size 5 i5 (.int .u8 0) 1 1 Tryz.underlying26 hi5 hz5 hs5 hb5 rfl (by omega) (.slice oa P.length oc) P.length (bC P) (by rfl) Ox3.out ⟨x2.heap.size, 0, none⟩ S.size _ (bC S.data.toList) (by rfl) (bC_size S) cx3 (bC_one _) hS1 (by unfold maxLen; omega) (by omega) (by omega) _ rfl ?_
              intro g9 c9 w9 hown9 hgrow9 _ _
              have hr := app_own2 Bx3 Ox3.out hown9 hgrow9 (by omega)
              refine hK.out _ _ (fun _ => hr.2) ?_
              clear hK K
              refine anyE_one 18 (by kernel_rfl) rfl (fun K hK => ?_)
              go_simp
              refine hK.out _ _ (fun _ => hr.2) ?_
              clear hK K
              refine anyE_done (by kernel_rfl) ?_ _
              have ho9 := hr.1
              rw [HSL.out] at ho9
              have HV9 := hide ho9
              have HB9 := hide (HB.out.trans hr.2)
              clear hown9 hgrow9 hr ho9
              go_wp2_with fail
              go_roundw
              case rel => exact ⟨j + 1, _, by go_num, rfl, by omega, HV9, HB9⟩
              case measure => simp [intOf]; omega
            · go_simp
              refine (HTX.out _ Bx1).mono ?_
              rintro e x2 ⟨rfl, bx2⟩
              have zx2 := Bx1.size
              have Bx2 : Below w1.heap.size wr x2 := Bx1.trans (bx2.mono (by omega))
              have lx2 := keep_cell bx2 lx1
              have Ox2 := hide (row_keep bx2 Ox1.out)
              refine hK.out _ _ (fun _ => Bx2) ?_
              clear hK K bx2
              refine anyE_one 6 (by kernel_rfl) rfl (fun K hK => ?_)
              have hwx : (IntKind.i64.wrap 0).toNat = 0 := by decide
              go_simp
              refine hK.out _ _ (fun _ => Bx2) ?_
              clear hK K
              refine anyE_one 15 (by kernel_rfl) rfl (fun K hK => ?_)
              go_simp
              rw [if_neg HAD.out, ← HSE.out]
              refine hK.out _ _ (fun _ => Bx2) ?_
              clear hK K
              refine anyE_one 16 (by kernel_rfl) rfl (fun K hK => ?_)
              go_simp
              obtain ⟨x3, hx3⟩ : ∃ X, X = Lib.bytesWorld x2 5 S := ⟨_, rfl⟩
              rw [← hx3]
              have bx3 : Below x2.heap.size x2 x3 := by rw [hx3]; exact Go.Joins.below_bytesWorld _ _ 5 S (Nat.le_refl _)
              have zx3 := Bx2.size
              have yx3 := bx3.size
              have Bx3 : Below w1.heap.size wr x3 := Bx2.trans (bx3.mono (by omega))
              have cx3 : ∀ j u, (bC S.data.toList)[j]? = some u → x3.cell? ((⟨x2.heap.size, 0, none⟩ : Addr).add j) = some u := by rw [hx3]; exact conv_cells S _
              have Ox3 := hide (row_keep bx3 Ox2.out)
              refine hK.out _ _ (fun _ => Bx3) ?_
              clear hK K hx3 bx3
              refine anyE_one 17 (by kernel_rfl) rfl (fun K hK => ?_)
              refine step_append_lies _ (by rfl) _ _ 26 (by rfl) w1.heap.size 5 i5 (.int .u8 0) 1 1 Tryz.underlying26 hi5 hz5 hs5 hb5 rfl (by omega) (.slice oa P.length oc) P.length (bC P) (by rfl) Ox3.out ⟨x2.heap.size, 0, none⟩ S.size _ (bC S.data.toList) (by rfl) (bC_size S) cx3 (bC_one _) hS1 (by unfold maxLen; omega) (by omega) (by omega) _ rfl ?_
              intro g9 c9 w9 hown9 hgrow9 _ _
              have hr := app_own2 Bx3 Ox3.out hown9 hgrow9 (by omega)
              refine hK.out _ _ (fun _ => hr.2) ?_
              clear hK K
              refine anyE_one 18 (by kernel_rfl) rfl (fun K hK => ?_)
              go_simp
              refine hK.out _ _ (fun _ => hr.2) ?_
              clear hK K
              refine anyE_done (by kernel_rfl) ?_ _
              have ho9 := hr.1
              rw [HSL.out] at ho9
              have HV9 := hide ho9
              have HB9 := hide (HB.out.trans hr.2)
              clear hown9 hgrow9 hr ho9
              go_wp2_with fail
              go_roundw
              case rel => exact ⟨j + 1, _, by go_num, rfl, by omega, HV9, HB9⟩
              case measure => simp [intOf]; omega
          · go_simp
            refine (HTX.out _ Bx0).mono ?_
            rintro e x1 ⟨rfl, bx1⟩
            have zx1 := Bx0.size
            have Bx1 : Below w1.heap.size wr x1 := Bx0.trans (bx1.mono (by omega))
            have Ox1 := hide (row_keep bx1 Ox0.out)
            refine hK.out _ _ (fun _ => Bx1) ?_
            clear hK K bx1
            refine anyE_one 1 (by kernel_rfl) rfl (fun K hK => ?_)
            go_simp
            obtain ⟨x2, hx2⟩ : ∃ X, X = x1.alloc (.cells #[.string ⟨#[123]⟩, .string ⟨#[44]⟩] 9) := ⟨_, rfl⟩
            rw [← hx2]
            have bx2 : Below x1.heap.size x1 x2 := by rw [hx2]; exact bel_alloc (Below.refl _ _) _
            have zx2 := Bx1.size
            have Bx2 : Below w1.heap.size wr x2 := Bx1.trans (bx2.mono (by omega))
            have lx2 : x2.cell? ⟨x1.heap.size, 0, none⟩ = some (.string ⟨#[123]⟩) := by rw [hx2, cell_of_row _ _ _ _ _ _ (heap_alloc_new _ _)]; exact HIX.out
            have Ox2 := hide (row_keep bx2 Ox1.out)
            refine hK.out _ _ (fun _ => Bx2) ?_
            clear hK K hx2 bx2
            refine anyE_take2 5 (v := ?v14) rfl (by kernel_rfl) (by kernel_rfl) (by kernel_rfl) (by kernel_rfl) (fun _ _ _ h => h) (by rfl) ?hy14 Bx2 ?rest14
            case hy14 =>
              intro wx hx
              go_simp
              try rfl
            case rest14 =>
            intro K hK
            go_simp
            refine hK.out _ ?_
            clear hK K
            refine anyE_one 6 (by kernel_rfl) rfl (fun K hK => ?_)
            have hwx : (IntKind.i64.wrap 0).toNat = 0 := by decide
            go_simp
            refine hK.out _ _ (fun _ => Bx2) ?_
            clear hK K
            refine anyE_one 15 (by kernel_rfl) rfl (fun K hK => ?_)
            go_simp
            rw [if_neg HAD.out, ← HSE.out]
            refine hK.out _ _ (fun _ => Bx2) ?_
            clear hK K
            refine anyE_one 16 (by kernel_rfl) rfl (fun K hK => ?_)
            go_simp
            obtain ⟨x3, hx3⟩ : ∃ X, X = Lib.bytesWorld x2 5 S := ⟨_, rfl⟩
            rw [← hx3]
            have bx3 : Below x2.heap.size x2 x3 := by rw [hx3]; exact Go.Joins.below_bytesWorld _ _ 5 S (Nat.le_refl _)
            have zx3 := Bx2.size
            have yx3 := bx3.size
            have Bx3 : Below w1.heap.size wr x3 := Bx2.trans (bx3.mono (by omega))
            have cx3 : ∀ j u, (bC S.data.toList)[j]? = some u → x3.cell? ((⟨x2.heap.size, 0, none⟩ : Addr).add j) = some u := by rw [hx3]; exact conv_cells S _
            have Ox3 := hide (row_keep bx3 Ox2.out)
            refine hK.out _ _ (fun _ => Bx3) ?_
            clear hK K hx3 bx3
            refine anyE_one 17 (by kernel_rfl) rfl (fun K hK => ?_)
            refine step_append_lies _ (by rfl) _ _ 26 (by rfl) w1.heap.size 5 i5 (.int .u8 0) 1 1 Tryz.underlying26 hi5 hz5 hs5 hb5 rfl (by omega) (.slice oa P.length oc) P.length (bC P) (by rfl) Ox3.out ⟨x2.heap.size, 0, none⟩ S.size _ (bC S.data.toList) (by rfl) (bC_size S) cx3 (bC_one _) hS1 (by unfold maxLen; omega) (by omega) (by omega) _ rfl ?_
            intro g9 c9 w9 hown9 hgrow9 _ _
            have hr := app_own2 Bx3 Ox3.out hown9 hgrow9 (by omega)
            refine hK.out _ _ (fun _ => hr.2) ?_
            clear hK K
            refine anyE_one 18 (by kernel_rfl) rfl (fun K hK => ?_)
            go_simp
            refine hK.out _ _ (fun _ => hr.2) ?_
            clear hK K
            refine anyE_done (by kernel_rfl) ?_ _
            have ho9 := hr.1
            rw [HSL.out] at ho9
            have HV9 := hide ho9
            have HB9 := hide (HB.out.trans hr.2)
            clear hown9 hgrow9 hr ho9
            go_wp2_with fail
            go_roundw
            case rel => exact ⟨j + 1, _, by go_num, rfl, by omega, HV9, HB9⟩
            case measure => simp [intOf]; omega
      · have HJ0 := hide hj0
        have HZE : Hid (∀ W : World, Calls Tryz.prog 29 #[.int .i64 (j : Int)] W fun e w' => e = .returned (.int .i64 0) ∧ w' = W) := by
          show ∀ W : World, _
          intro W
          have h1 := zero_any (j : Int) W
          rw [if_neg (by omega)] at h1
          exact h1
        have HIX : Hid ((#[.string ⟨#[123]⟩, .string ⟨#[44]⟩] : Array Value)[1]? = some (.string ⟨#[44]⟩)) := rfl
        obtain ⟨S, hS⟩ : ∃ S : ByteArray, S = ⟨#[44]⟩ ++ X := ⟨_, rfl⟩
        have HSE := hide hS
        have HAD : Hid (¬ 9223372036854775807 < 1 + X.size) := by show ¬ _; omega
        have HCV := conv_any S
        have hS1 : 0 < S.size := by rw [hS, ByteArray.size_append]; show 0 < 1 + X.size; omega
        have hS2 : S.size ≤ 4000 := by rw [hS, ByteArray.size_append]; show 1 + X.size ≤ 4000; omega
        have HSL : Hid (P ++ S.data.toList = bs ++ (td.s.data.toList ++ lvsT td.lv (j + 1))) := by
          show _ = _
          rw [HSN.out, HPE.out, if_neg HJ0.out, hS]
          simp
        clear hS hj0
        obtain ⟨x0, hx0⟩ : ∃ X, X = wr.drew := ⟨_, rfl⟩
        have Bx0 : Below w1.heap.size wr x0 := by rw [hx0]; exact (Below.refl _ _).drew
        have Ox0 := hide (row_keep (show Below wr.heap.size wr x0 by rw [hx0]; exact (Below.refl _ _).drew) HV.out)
        refine anyE_region (L := 99) (S := fun w' => Below w1.heap.size wr w') (by kernel_rfl) ?_
        rw [← hx0]
        clear hx0
        refine anyE_take2 0 (v := ?v15) rfl (by kernel_rfl) (by kernel_rfl) (by kernel_rfl) (by kernel_rfl) (fun _ _ _ h => h) (by rfl) ?hy15 Bx0 ?rest15
        case hy15 =>
          intro wx hx
          go_simp
          try rfl
        case rest15 =>
        intro K hK
        go_simp
        refine hK.out _ ?_
        clear hK K
        refine anyE_take2 2 (v := ?v16) rfl (by kernel_rfl) (by kernel_rfl) (by kernel_rfl) (by kernel_rfl) (fun _ _ _ h => h) (by rfl) ?hy16 Bx0 ?rest16
        case hy16 =>
          intro wx hx
          go_simp
          try rfl
        case rest16 =>
        intro K hK
        go_simp
        refine hK.out _ ?_
        clear hK K
        refine anyE_take2 7 (v := ?v17) rfl (by kernel_rfl) (by kernel_rfl) (by kernel_rfl) (by kernel_rfl) (fun _ _ _ h => h) (by rfl) ?hy17 Bx0 ?rest17
        case hy17 =>
          intro wx hx
          go_simp
          try rfl
        case rest17 =>
        intro K hK
        go_simp
        refine hK.out _ ?_
        clear hK K
        refine anyE_take2 8 (v := ?v18) rfl (by kernel_rfl) (by kernel_rfl) (by kernel_rfl) (by kernel_rfl) (fun _ _ _ h => h) (by rfl) ?hy18 Bx0 ?rest18
        case hy18 =>
          intro wx hx
          go_simp
          try rfl
        case rest18 =>
        intro K hK
        go_simp
        refine hK.out _ ?_
        clear hK K
        refine anyE_take2 9 (v := ?v19) rfl (by kernel_rfl) (by kernel_rfl) (by kernel_rfl) (by kernel_rfl) (fun _ _ _ h => h) (by rfl) ?hy19 Bx0 ?rest19
        case hy19 =>
          intro wx hx
          go_simp
          try rfl
        case rest19 =>
        intro K hK
        go_simp
        refine hK.out _ ?_
        clear hK K
        refine anyE_take2 10 (v := ?v20) rfl (by kernel_rfl) (by kernel_rfl) (by kernel_rfl) (by kernel_rfl) (fun _ _ _ h => h) (by rfl) ?hy20 Bx0 ?rest20
        case hy20 =>
          intro wx hx
          have m4 := ((HBR.out.trans hx).cell (p := ⟨p, 4, none⟩) hl4).trans D4.out
          have m5 := ((HBR.out.trans hx).cell (p := ⟨lb, lo + j, none⟩) hlb).trans cg
          go_simp
          try rfl
        case rest20 =>
        intro K hK
        go_simp
        refine hK.out _ ?_
        clear hK K
        refine anyE_take2 11 (v := ?v21) rfl (by kernel_rfl) (by kernel_rfl) (by kernel_rfl) (by kernel_rfl) (fun _ _ _ h => h) (by rfl) ?hy21 Bx0 ?rest21
        case hy21 =>
          intro wx hx
          go_simp
          try rfl
        case rest21 =>
        intro K hK
        go_simp
        refine hK.out _ ?_
        clear hK K
        refine anyE_take2 12 (v := ?v22) rfl (by kernel_rfl) (by kernel_rfl) (by kernel_rfl) (by kernel_rfl) (fun _ _ _ h => h) (by rfl) ?hy22 Bx0 ?rest22
        case hy22 =>
          intro wx hx
          go_simp
          try rfl
        case rest22 =>
        intro K hK
        go_simp
        refine hK.out _ ?_
        clear hK K
        refine anyE_take2 13 (v := ?v23) rfl (by kernel_rfl) (by kernel_rfl) (by kernel_rfl) (by kernel_rfl) (fun _ _ _ h => h) (by rfl) ?hy23 Bx0 ?rest23
        case hy23 =>
          intro wx hx
          have m4 := ((HBR.out.trans hx).cell (p := ⟨p, 4, none⟩) hl4).trans D4.out
          have m5 := ((HBR.out.trans hx).cell (p := ⟨lb, lo + j, none⟩) hlb).trans cg
          go_simp
          try rfl
        case rest23 =>
        intro K hK
        go_simp
        refine hK.out _ ?_
        clear hK K
        refine anyE_two 1 3 (by kernel_rfl) rfl rfl (fun K hK => ?_) (fun K hK => ?_)
        · go_simp
          obtain ⟨x1, hx1⟩ : ∃ X, X = x0.alloc (.cells #[.string ⟨#[123]⟩, .string ⟨#[44]⟩] 9) := ⟨_, rfl⟩
          rw [← hx1]
          have bx1 : Below x0.heap.size x0 x1 := by rw [hx1]; exact bel_alloc (Below.refl _ _) _
          have zx1 := Bx0.size
          have Bx1 : Below w1.heap.size wr x1 := Bx0.trans (bx1.mono (by omega))
          have lx1 : x1.cell? ⟨x0.heap.size, 1, none⟩ = some (.string ⟨#[44]⟩) := by rw [hx1, cell_of_row _ _ _ _ _ _ (heap_alloc_new _ _)]; exact HIX.out
          have Ox1 := hide (row_keep bx1 Ox0.out)
          refine hK.out _ _ (fun _ => Bx1) ?_
          clear hK K hx1 bx1
          refine anyE_one 3 (by kernel_rfl) rfl (fun K hK => ?_)
          go_simp
          refine (HZE.out _).mono ?_
          rintro e wq ⟨rfl, hwq⟩
          rw [hwq]
          clear hwq wq
          refine hK.out _ _ (fun _ => Bx1) ?_
          clear hK K
          refine anyE_take2 4 (v := ?v24) rfl (by kernel_rfl) (by kernel_rfl) (by kernel_rfl) (by kernel_rfl) (fun _ _ _ h => h) (by rfl) ?hy24 Bx1 ?rest24
          case hy24 =>
            intro wx hx
            go_simp
            try rfl
          case rest24 =>
          intro K hK
          go_simp
          refine hK.out _ ?_
          clear hK K
          refine anyE_take2 5 (v := ?v25) rfl (by kernel_rfl) (by kernel_rfl) (by kernel_rfl) (by kernel_rfl) (fun _ _ _ h => h) (by rfl) ?hy25 Bx1 ?rest25
          case hy25 =>
            intro wx hx
            go_simp
            try rfl
          case rest25 =>
          intro K hK
          go_simp
          refine hK.out _ ?_
          clear hK K
          refine anyE_two 6 14 (by kernel_rfl) rfl rfl (fun K hK => ?_) (fun K hK => ?_)
          · have hwx : (IntKind.i64.wrap 1).toNat = 1 := by decide
            go_simp
            refine hK.out _ _ (fun _ => Bx1) ?_
            clear hK K
            refine anyE_one 14 (by kernel_rfl) rfl (fun K hK => ?_)
            go_simp
            refine (HTX.out _ Bx1).mono ?_
            rintro e x2 ⟨rfl, bx2⟩
            have zx2 := Bx1.size
            have Bx2 : Below w1.heap.size wr x2 := Bx1.trans (bx2.mono (by omega))
            have lx2 := keep_cell bx2 lx1
            have Ox2 := hide (row_keep bx2 Ox1.out)
            refine hK.out _ _ (fun _ => Bx2) ?_
            clear hK K bx2
            refine anyE_one 15 (by kernel_rfl) rfl (fun K hK => ?_)
            go_simp
            rw [if_neg HAD.out, ← HSE.out]
            refine hK.out _ _ (fun _ => Bx2) ?_
            clear hK K
            refine anyE_one 16 (by kernel_rfl) rfl (fun K hK => ?_)
            go_simp
            obtain ⟨x3, hx3⟩ : ∃ X, X = Lib.bytesWorld x2 5 S := ⟨_, rfl⟩
            rw [← hx3]
            have bx3 : Below x2.heap.size x2 x3 := by rw [hx3]; exact Go.Joins.below_bytesWorld _ _ 5 S (Nat.le_refl _)
            have zx3 := Bx2.size
            have yx3 := bx3.size
            have Bx3 : Below w1.heap.size wr x3 := Bx2.trans (bx3.mono (by omega))
            have cx3 : ∀ j u, (bC S.data.toList)[j]? = some u → x3.cell? ((⟨x2.heap.size, 0, none⟩ : Addr).add j) = some u := by rw [hx3]; exact conv_cells S _
            have Ox3 := hide (row_keep bx3 Ox2.out)
            refine hK.out _ _ (fun _ => Bx3) ?_
            clear hK K hx3 bx3
            refine anyE_one 17 (by kernel_rfl) rfl (fun K hK => ?_)
            refine step_append_lies _ (by rfl) _ _ 26 (by rfl) w1.heap.size 5 i5 (.int .u8 0) 1 1 Tryz.underlying26 hi5 hz5 hs5 hb5 rfl (by omega) (.slice oa P.length oc) P.length (bC P) (by rfl) Ox3.out ⟨x2.heap.size, 0, none⟩ S.size _ (bC S.data.toList) (by rfl) (bC_size S) cx3 (bC_one _) hS1 (by unfold maxLen; omega) (by omega) (by omega) _ rfl ?_
            intro g9 c9 w9 hown9 hgrow9 _ _
            have hr := app_own2 Bx3 Ox3.out hown9 hgrow9 (by omega)
            refine hK.out _ _ (fun _ => hr.2) ?_
            clear hK K
            refine anyE_one 18 (by kernel_rfl) rfl (fun K hK => ?_)
            go_simp
            refine hK.out _ _ (fun _ => hr.2) ?_
            clear hK K
            refine anyE_done (by kernel_rfl) ?_ _
            have ho9 := hr.1
            rw [HSL.out] at ho9
            have HV9 := hide ho9
            have HB9 := hide (HB.out.trans hr.2)
            clear hown9 hgrow9 hr ho9
            go_wp2_with fail
            go_roundw
            case rel => exact ⟨j + 1, _, by go_num, rfl, by omega, HV9, HB9⟩
            case measure => simp [intOf]; omega
          · go_simp
            refine (HTX.out _ Bx1).mono ?_
            rintro e x2 ⟨rfl, bx2⟩
            have zx2 := Bx1.size
            have Bx2 : Below w1.heap.size wr x2 := Bx1.trans (bx2.mono (by omega))
            have lx2 := keep_cell bx2 lx1
            have Ox2 := hide (row_keep bx2 Ox1.out)
            refine hK.out _ _ (fun _ => Bx2) ?_
            clear hK K bx2
            refine anyE_one 6 (by kernel_rfl) rfl (fun K hK => ?_)
            have hwx : (IntKind.i64.wrap 1).toNat = 1 := by decide
            go_simp
            refine hK.out _ _ (fun _ => Bx2) ?_
            clear hK K
            refine anyE_one 15 (by kernel_rfl) rfl (fun K hK => ?_)
            go_simp
            rw [if_neg HAD.out, ← HSE.out]
            refine hK.out _ _ (fun _ => Bx2) ?_
            clear hK K
            refine anyE_one 16 (by kernel_rfl) rfl (fun K hK => ?_)
            go_simp
            obtain ⟨x3, hx3⟩ : ∃ X, X = Lib.bytesWorld x2 5 S := ⟨_, rfl⟩
            rw [← hx3]
            have bx3 : Below x2.heap.size x2 x3 := by rw [hx3]; exact Go.Joins.below_bytesWorld _ _ 5 S (Nat.le_refl _)
            have zx3 := Bx2.size
            have yx3 := bx3.size
            have Bx3 : Below w1.heap.size wr x3 := Bx2.trans (bx3.mono (by omega))
            have cx3 : ∀ j u, (bC S.data.toList)[j]? = some u → x3.cell? ((⟨x2.heap.size, 0, none⟩ : Addr).add j) = some u := by rw [hx3]; exact conv_cells S _
            have Ox3 := hide (row_keep bx3 Ox2.out)
            refine hK.out _ _ (fun _ => Bx3) ?_
            clear hK K hx3 bx3
            refine anyE_one 17 (by kernel_rfl) rfl (fun K hK => ?_)
            refine step_append_lies _ (by rfl) _ _ 26 (by rfl) w1.heap.size 5 i5 (.int .u8 0) 1 1 Tryz.underlying26 hi5 hz5 hs5 hb5 rfl (by omega) (.slice oa P.length oc) P.length (bC P) (by rfl) Ox3.out ⟨x2.heap.size, 0, none⟩ S.size _ (bC S.data.toList) (by rfl) (bC_size S) cx3 (bC_one _) hS1 (by unfold maxLen; omega) (by omega) (by omega) _ rfl ?_
            intro g9 c9 w9 hown9 hgrow9 _ _
            have hr := app_own2 Bx3 Ox3.out hown9 hgrow9 (by omega)
            refine hK.out _ _ (fun _ => hr.2) ?_
            clear hK K
            refine anyE_one 18 (by kernel_rfl) rfl (fun K hK => ?_)
            go_simp
            refine hK.out _ _ (fun _ => hr.2) ?_
            clear hK K
            refine anyE_done (by kernel_rfl) ?_ _
            have ho9 := hr.1
            rw [HSL.out] at ho9
            have HV9 := hide ho9
            have HB9 := hide (HB.out.trans hr.2)
            clear hown9 hgrow9 hr ho9
            go_wp2_with fail
            go_roundw
            case rel => exact ⟨j + 1, _, by go_num, rfl, by omega, HV9, HB9⟩
            case measure => simp [intOf]; omega
        · go_simp
          refine (HZE.out _).mono ?_
          rintro e wq ⟨rfl, hwq⟩
          rw [hwq]
          clear hwq wq
          refine hK.out _ _ (fun _ => Bx0) ?_
          clear hK K
          refine anyE_take2 4 (v := ?v26) rfl (by kernel_rfl) (by kernel_rfl) (by kernel_rfl) (by kernel_rfl) (fun _ _ _ h => h) (by rfl) ?hy26 Bx0 ?rest26
          case hy26 =>
            intro wx hx
            go_simp
            try rfl
          case rest26 =>
          intro K hK
          go_simp
          refine hK.out _ ?_
          clear hK K
          refine anyE_two 1 14 (by kernel_rfl) rfl rfl (fun K hK => ?_) (fun K hK => ?_)
          · go_simp
            obtain ⟨x1, hx1⟩ : ∃ X, X = x0.alloc (.cells #[.string ⟨#[123]⟩, .string ⟨#[44]⟩] 9) := ⟨_, rfl⟩
            rw [← hx1]
            have bx1 : Below x0.heap.size x0 x1 := by rw [hx1]; exact bel_alloc (Below.refl _ _) _
            have zx1 := Bx0.size
            have Bx1 : Below w1.heap.size wr x1 := Bx0.trans (bx1.mono (by omega))
            have lx1 : x1.cell? ⟨x0.heap.size, 1, none⟩ = some (.string ⟨#[44]⟩) := by rw [hx1, cell_of_row _ _ _ _ _ _ (heap_alloc_new _ _)]; exact HIX.out
            have Ox1 := hide (row_keep bx1 Ox0.out)
            refine hK.out _ _ (fun _ => Bx1) ?_
            clear hK K hx1 bx1
            refine anyE_take2 5 (v := ?v27) rfl (by kernel_rfl) (by kernel_rfl) (by kernel_rfl) (by kernel_rfl) (fun _ _ _ h => h) (by rfl) ?hy27 Bx1 ?rest27
            case hy27 =>
              intro wx hx
              go_simp
              try rfl
            case rest27 =>
            intro K hK
            go_simp
            refine hK.out _ ?_
            clear hK K
            refine anyE_two 6 14 (by kernel_rfl) rfl rfl (fun K hK => ?_) (fun K hK => ?_)
            · have hwx : (IntKind.i64.wrap 1).toNat = 1 := by decide
              go_simp
              refine hK.out _ _ (fun _ => Bx1) ?_
              clear hK K
              refine anyE_one 14 (by kernel_rfl) rfl (fun K hK => ?_)
              go_simp
              refine (HTX.out _ Bx1).mono ?_
              rintro e x2 ⟨rfl, bx2⟩
              have zx2 := Bx1.size
              have Bx2 : Below w1.heap.size wr x2 := Bx1.trans (bx2.mono (by omega))
              have lx2 := keep_cell bx2 lx1
              have Ox2 := hide (row_keep bx2 Ox1.out)
              refine hK.out _ _ (fun _ => Bx2) ?_
              clear hK K bx2
              refine anyE_one 15 (by kernel_rfl) rfl (fun K hK => ?_)
              go_simp
              rw [if_neg HAD.out, ← HSE.out]
              refine hK.out _ _ (fun _ => Bx2) ?_
              clear hK K
              refine anyE_one 16 (by kernel_rfl) rfl (fun K hK => ?_)
              go_simp
              obtain ⟨x3, hx3⟩ : ∃ X, X = Lib.bytesWorld x2 5 S := ⟨_, rfl⟩
              rw [← hx3]
              have bx3 : Below x2.heap.size x2 x3 := by rw [hx3]; exact Go.Joins.below_bytesWorld _ _ 5 S (Nat.le_refl _)
              have zx3 := Bx2.size
              have yx3 := bx3.size
              have Bx3 : Below w1.heap.size wr x3 := Bx2.trans (bx3.mono (by omega))
              have cx3 : ∀ j u, (bC S.data.toList)[j]? = some u → x3.cell? ((⟨x2.heap.size, 0, none⟩ : Addr).add j) = some u := by rw [hx3]; exact conv_cells S _
              have Ox3 := hide (row_keep bx3 Ox2.out)
              refine hK.out _ _ (fun _ => Bx3) ?_
              clear hK K hx3 bx3
              refine anyE_one 17 (by kernel_rfl) rfl (fun K hK => ?_)
              refine step_append_lies _ (by rfl) _ _ 26 (by rfl) w1.heap.size 5 i5 (.int .u8 0) 1 1 Tryz.underlying26 hi5 hz5 hs5 hb5 rfl (by omega) (.slice oa P.length oc) P.length (bC P) (by rfl) Ox3.out ⟨x2.heap.size, 0, none⟩ S.size _ (bC S.data.toList) (by rfl) (bC_size S) cx3 (bC_one _) hS1 (by unfold maxLen; omega) (by omega) (by omega) _ rfl ?_
              intro g9 c9 w9 hown9 hgrow9 _ _
              have hr := app_own2 Bx3 Ox3.out hown9 hgrow9 (by omega)
              refine hK.out _ _ (fun _ => hr.2) ?_
              clear hK K
              refine anyE_one 18 (by kernel_rfl) rfl (fun K hK => ?_)
              go_simp
              refine hK.out _ _ (fun _ => hr.2) ?_
              clear hK K
              refine anyE_done (by kernel_rfl) ?_ _
              have ho9 := hr.1
              rw [HSL.out] at ho9
              have HV9 := hide ho9
              have HB9 := hide (HB.out.trans hr.2)
              clear hown9 hgrow9 hr ho9
              go_wp2_with fail
              go_roundw
              case rel => exact ⟨j + 1, _, by go_num, rfl, by omega, HV9, HB9⟩
              case measure => simp [intOf]; omega
            · go_simp
              refine (HTX.out _ Bx1).mono ?_
              rintro e x2 ⟨rfl, bx2⟩
              have zx2 := Bx1.size
              have Bx2 : Below w1.heap.size wr x2 := Bx1.trans (bx2.mono (by omega))
              have lx2 := keep_cell bx2 lx1
              have Ox2 := hide (row_keep bx2 Ox1.out)
              refine hK.out _ _ (fun _ => Bx2) ?_
              clear hK K bx2
              refine anyE_one 6 (by kernel_rfl) rfl (fun K hK => ?_)
              have hwx : (IntKind.i64.wrap 1).toNat = 1 := by decide
              go_simp
              refine hK.out _ _ (fun _ => Bx2) ?_
              clear hK K
              refine anyE_one 15 (by kernel_rfl) rfl (fun K hK => ?_)
              go_simp
              rw [if_neg HAD.out, ← HSE.out]
              refine hK.out _ _ (fun _ => Bx2) ?_
              clear hK K
              refine anyE_one 16 (by kernel_rfl) rfl (fun K hK => ?_)
              go_simp
              obtain ⟨x3, hx3⟩ : ∃ X, X = Lib.bytesWorld x2 5 S := ⟨_, rfl⟩
              rw [← hx3]
              have bx3 : Below x2.heap.size x2 x3 := by rw [hx3]; exact Go.Joins.below_bytesWorld _ _ 5 S (Nat.le_refl _)
              have zx3 := Bx2.size
              have yx3 := bx3.size
              have Bx3 : Below w1.heap.size wr x3 := Bx2.trans (bx3.mono (by omega))
              have cx3 : ∀ j u, (bC S.data.toList)[j]? = some u → x3.cell? ((⟨x2.heap.size, 0, none⟩ : Addr).add j) = some u := by rw [hx3]; exact conv_cells S _
              have Ox3 := hide (row_keep bx3 Ox2.out)
              refine hK.out _ _ (fun _ => Bx3) ?_
              clear hK K hx3 bx3
              refine anyE_one 17 (by kernel_rfl) rfl (fun K hK => ?_)
              refine step_append_lies _ (by rfl) _ _ 26 (by rfl) w1.heap.size 5 i5 (.int .u8 0) 1 1 Tryz.underlying26 hi5 hz5 hs5 hb5 rfl (by omega) (.slice oa P.length oc) P.length (bC P) (by rfl) Ox3.out ⟨x2.heap.size, 0, none⟩ S.size _ (bC S.data.toList) (by rfl) (bC_size S) cx3 (bC_one _) hS1 (by unfold maxLen; omega) (by omega) (by omega) _ rfl ?_
              intro g9 c9 w9 hown9 hgrow9 _ _
              have hr := app_own2 Bx3 Ox3.out hown9 hgrow9 (by omega)
              refine hK.out _ _ (fun _ => hr.2) ?_
              clear hK K
              refine anyE_one 18 (by kernel_rfl) rfl (fun K hK => ?_)
              go_simp
              refine hK.out _ _ (fun _ => hr.2) ?_
              clear hK K
              refine anyE_done (by kernel_rfl) ?_ _
              have ho9 := hr.1
              rw [HSL.out] at ho9
              have HV9 := hide ho9
              have HB9 := hide (HB.out.trans hr.2)
              clear hown9 hgrow9 hr ho9
              go_wp2_with fail
              go_roundw
              case rel => exact ⟨j + 1, _, by go_num, rfl, by omega, HV9, HB9⟩
              case measure => simp [intOf]; omega
          · go_simp
            refine (HTX.out _ Bx0).mono ?_
            rintro e x1 ⟨rfl, bx1⟩
            have zx1 := Bx0.size
            have Bx1 : Below w1.heap.size wr x1 := Bx0.trans (bx1.mono (by omega))
            have Ox1 := hide (row_keep bx1 Ox0.out)
            refine hK.out _ _ (fun _ => Bx1) ?_
            clear hK K bx1
            refine anyE_one 1 (by kernel_rfl) rfl (fun K hK => ?_)
            go_simp
            obtain ⟨x2, hx2⟩ : ∃ X, X = x1.alloc (.cells #[.string ⟨#[123]⟩, .string ⟨#[44]⟩] 9) := ⟨_, rfl⟩
            rw [← hx2]
            have bx2 : Below x1.heap.size x1 x2 := by rw [hx2]; exact bel_alloc (Below.refl _ _) _
            have zx2 := Bx1.size
            have Bx2 : Below w1.heap.size wr x2 := Bx1.trans (bx2.mono (by omega))
            have lx2 : x2.cell? ⟨x1.heap.size, 1, none⟩ = some (.string ⟨#[44]⟩) := by rw [hx2, cell_of_row _ _ _ _ _ _ (heap_alloc_new _ _)]; exact HIX.out
            have Ox2 := hide (row_keep bx2 Ox1.out)
            refine hK.out _ _ (fun _ => Bx2) ?_
            clear hK K hx2 bx2
            refine anyE_take2 5 (v := ?v28) rfl (by kernel_rfl) (by kernel_rfl) (by kernel_rfl) (by kernel_rfl) (fun _ _ _ h => h) (by rfl) ?hy28 Bx2 ?rest28
            case hy28 =>
              intro wx hx
              go_simp
              try rfl
            case rest28 =>
            intro K hK
            go_simp
            refine hK.out _ ?_
            clear hK K
            refine anyE_one 6 (by kernel_rfl) rfl (fun K hK => ?_)
            have hwx : (IntKind.i64.wrap 1).toNat = 1 := by decide
            go_simp
            refine hK.out _ _ (fun _ => Bx2) ?_
            clear hK K
            refine anyE_one 15 (by kernel_rfl) rfl (fun K hK => ?_)
            go_simp
            rw [if_neg HAD.out, ← HSE.out]
            refine hK.out _ _ (fun _ => Bx2) ?_
            clear hK K
            refine anyE_one 16 (by kernel_rfl) rfl (fun K hK => ?_)
            go_simp
            obtain ⟨x3, hx3⟩ : ∃ X, X = Lib.bytesWorld x2 5 S := ⟨_, rfl⟩
            rw [← hx3]
            have bx3 : Below x2.heap.size x2 x3 := by rw [hx3]; exact Go.Joins.below_bytesWorld _ _ 5 S (Nat.le_refl _)
            have zx3 := Bx2.size
            have yx3 := bx3.size
            have Bx3 : Below w1.heap.size wr x3 := Bx2.trans (bx3.mono (by omega))
            have cx3 : ∀ j u, (bC S.data.toList)[j]? = some u → x3.cell? ((⟨x2.heap.size, 0, none⟩ : Addr).add j) = some u := by rw [hx3]; exact conv_cells S _
            have Ox3 := hide (row_keep bx3 Ox2.out)
            refine hK.out _ _ (fun _ => Bx3) ?_
            clear hK K hx3 bx3
            refine anyE_one 17 (by kernel_rfl) rfl (fun K hK => ?_)
            refine step_append_lies _ (by rfl) _ _ 26 (by rfl) w1.heap.size 5 i5 (.int .u8 0) 1 1 Tryz.underlying26 hi5 hz5 hs5 hb5 rfl (by omega) (.slice oa P.length oc) P.length (bC P) (by rfl) Ox3.out ⟨x2.heap.size, 0, none⟩ S.size _ (bC S.data.toList) (by rfl) (bC_size S) cx3 (bC_one _) hS1 (by unfold maxLen; omega) (by omega) (by omega) _ rfl ?_
            intro g9 c9 w9 hown9 hgrow9 _ _
            have hr := app_own2 Bx3 Ox3.out hown9 hgrow9 (by omega)
            refine hK.out _ _ (fun _ => hr.2) ?_
            clear hK K
            refine anyE_one 18 (by kernel_rfl) rfl (fun K hK => ?_)
            go_simp
            refine hK.out _ _ (fun _ => hr.2) ?_
            clear hK K
            refine anyE_done (by kernel_rfl) ?_ _
            have ho9 := hr.1
            rw [HSL.out] at ho9
            have HV9 := hide ho9
            have HB9 := hide (HB.out.trans hr.2)
            clear hown9 hgrow9 hr ho9
            go_wp2_with fail
            go_roundw
            case rel => exact ⟨j + 1, _, by go_num, rfl, by omega, HV9, HB9⟩
            case measure => simp [intOf]; omega
    · have hjl : j = td.lv.length := by omega
      subst hjl
      clear hlt
      have HLE := hide (HTL.out td.lv.length (Nat.le_refl _))
      have HCT : Hid (bs ++ (td.s.data.toList ++ lvsT td.lv td.lv.length) ++ (if td.lv.length = 0 then [] else [125]) = bs ++ constT td) := by
        show _ = _
        unfold constT
        simp
      obtain ⟨P, hP⟩ : ∃ P, P = bs ++ (td.s.data.toList ++ lvsT td.lv td.lv.length) := ⟨_, rfl⟩
      rw [← hP] at HV HCT
      have hPl : P.length ≤ 600000 := by
        have h1 := HLE.out
        have h2 := HSD.out
        rw [hP, List.length_append, List.length_append]
        omega
      obtain ⟨oa, oc, rfl⟩ := own_form HV.out
      clear hP hf HLT
      by_cases h0 : td.lv.length = 0
      · rw [if_pos h0, List.append_nil] at HCT
        have HB9 := hide HB.out
        have h0' : (td.lv.length : Int) = 0 := by omega
        have HV9 : Hid (wr.ownsRow w1.heap.size 5 1 (.slice oa P.length oc) (bs ++ constT td).length (bC (bs ++ constT td))) := by
          show World.ownsRow _ _ _ _ _ _ _
          rw [← HCT.out]
          exact HV.out
        go_wp2_with fail
        go_ret
        exact ⟨_, rfl, HV9.out, HB9.out⟩
      · rw [if_neg h0] at HCT
        have h0' : (0 : Int) < (td.lv.length : Int) := by omega
        go_wp2_with (first
          | (at_builtin
             refine wpList_append_own _ rfl _ _ 26 rfl w1.heap.size 5 i5 (.int .u8 0) 1 1 Tryz.underlying26 hi5 hz5 hs5 hb5 rfl (by omega) (.slice oa P.length oc) P.length (bC P) rfl (row_keep (bel_alloc (Below.refl wr.heap.size wr) _) HV.out) ⟨wr.heap.size, 0, none⟩ 1 _ (bC [125]) rfl rfl (lit_cells wr [125]) (bC_one _) (by unfold maxLen; omega) (by omega) (by rw [World.size_alloc]; omega) ?_
             intro v9 w9 hown9 hgrow9 _)
          | fail)
        have hr := app_own2 (S := ⟨#[125]⟩) (HB.out.alloc hsr (.cells #[.int .u8 125] 5)) (row_keep (bel_alloc (Below.refl wr.heap.size wr) _) HV.out) hown9 hgrow9 (by rw [World.size_alloc]; omega)
        have ho9 := hr.1
        rw [show (P ++ (ByteArray.mk #[125]).data.toList) = bs ++ constT td from HCT.out] at ho9
        have hb9 := hr.2
        clear hown9 hgrow9 hr
        go_wp2_with fail
        go_ret
        exact ⟨_, rfl, ho9, hb9⟩
end Go.Proofs.YtcagcfhnbphggaaGreatDoor
