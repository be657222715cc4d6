/- The specification's writing of a node in brackets. -/
import Derived.Test.YtcagcfhnbphggaaGreatDoorTtU
namespace Go.Proofs.YtcagcfhnbphggaaGreatDoor
open Go.ChangeShapes Go.WideShapes Go.ChangeAt Go.RowKit

set_option maxRecDepth 20000 in
set_option maxHeartbeats 16000000 in
theorem sp_brk {w1 : World} {pt : Nat → Nat} {ts : List Td} {f p : Nat} {td : Td} {Q : Nat → Prop} {z : Zs} (hok : ∀ i (hi : i < ts.length), NodeOk ts[i]) (hf5 : f ≤ 20001) (hf : FnAt Q w1 p td (td.kids.map (fun c => pt c.toNat)) z) (hn : NodeOk td) (hk : 4 ≤ td.k ∧ td.k ≤ 8) (ih : ∀ c ∈ td.kids, SpAt w1 pt ts f c.toNat) (bs : List UInt8) (v : Value) (w : World) (hb1 : Below w1.heap.size w1 w) (hown : w.ownsRow w1.heap.size 5 1 v bs.length (bC bs)) (hl : bs.length ≤ 400000) :
    Calls Tryz.prog 16 #[.pointer (some ⟨p, 0, none⟩), v] w (SpOut w1.heap.size (kidsT (wrT ts f) td.kids td.kids.length (bs ++ headT td) ++ [93]) w) := by
  obtain ⟨i5, hi5, hz5, hs5, hb5⟩ := info_parts Tryz.info5
  have HO := hide hown
  have HB1 := hide hb1
  obtain ⟨a, cap, rfl⟩ := own_form hown
  have hbig' : ¬ (400000 : Int) < (bs.length : Int) := by omega
  obtain ⟨lvv, kdv, d0, d1, d2, d3, d4, d5, hkr, _⟩ := fn_cells hf
  have c0 := keep_cell hb1 d0
  have hsz := hb1.size
  have hl0 : p < w1.heap.size := lt_cell d0
  obtain ⟨ka, kc, rfl, hkl, hkm, hkx⟩ := hkr
  rw [List.length_map] at hkl d5
  have hk3 : td.kids.length ≤ 3 := by
    have h1 := hn.kids
    unfold tkidsN at h1
    repeat' split at h1
    all_goals omega
  have HKX := hide (show ∀ i (hi : i < td.kids.length), ∃ b off, ka = some ⟨b, off, none⟩ ∧ w1.cell? ⟨b, off + i, none⟩ = some (.pointer (some ⟨pt (td.kids[i]).toNat, 0, none⟩)) from fun i hi => by
    obtain ⟨b, off, h1, _, h2⟩ := hkx (by rw [List.length_map]; omega)
    refine ⟨b, off, h1, ?_⟩
    rw [h2 i (by rw [List.length_map]; exact hi)]
    simp [ptrV])
  have HIH := hide ih
  have HHL := hide (headT_len hn)
  have hs40 : td.s.size ≤ 40 := hn.str
  have HSD : Hid (td.s.data.toList.length = td.s.size) := Array.length_toList
  have HXM : Hid ((bA (dD td.m)).size ≤ 8) := dD_len (n := td.m) (by have := hn.mode; omega)
  have HXN : Hid ((bA (dD td.n)).size ≤ 8) := dD_len (n := td.n) (by have := hn.num; omega)
  have HDM : Hid (∀ W, Calls Tryz.prog 27 #[.int .i64 td.m] W fun e w' => e = .returned (.string (bA (dD td.m))) ∧ Below W.heap.size W w') := by
    show ∀ W, _
    intro W
    have h1 := l1Dec_all td.m.toNat (by have := hn.mode; omega) W
    rw [Int.toNat_of_nonneg hn.mode.1] at h1
    exact h1
  have HDN : Hid (∀ W, Calls Tryz.prog 27 #[.int .i64 td.n] W fun e w' => e = .returned (.string (bA (dD td.n))) ∧ Below W.heap.size W w') := by
    show ∀ W, _
    intro W
    have h1 := l1Dec_all td.n.toNat (by have := hn.num; omega) W
    rw [Int.toNat_of_nonneg hn.num.1] at h1
    exact h1
  have q1 : (td.k == 1) = false := by simp; omega
  have q9 : (td.k == 9) = false := by simp; omega
  have q2 : (td.k == 2) = false := by simp; omega
  have q3 : (td.k == 3) = false := by simp; omega
  have D0 := hide d0
  have D1 := hide d1
  have D2 := hide d2
  have D3 := hide d3
  have D5 := hide d5
  have HL1 : Hid (∀ o : List UInt8, ∀ i, (kidsT (wrT ts f) td.kids i o).length ≤ max o.length 540100 + i) := by
    show ∀ _ _, _
    intro o i
    refine kidsT_len (C := 540100) (fun p o => ?_) _ _ _
    have := wrT_len hok f p o
    omega
  clear hown d0 d1 d2 d3 d4 d5 hkx hf ih hb1
  go_enter Tryz.func16, Tryz.ntmps16
  go_upto_region 19 with (first
    | (at_builtin
       refine wpList_append_own _ rfl _ _ 26 rfl w1.heap.size 5 i5 (.int .u8 0) 1 1 Tryz.underlying26 hi5 hz5 hs5 hb5 rfl (by omega) (.slice a bs.length cap) bs.length (bC bs) rfl (row_keep (bel_alloc (Below.refl w.heap.size w) _) HO.out) ⟨w.heap.size, 0, none⟩ 1 _ (bC [91]) rfl rfl (lit_cells w [91]) (bC_one _) (by unfold maxLen; omega) (by omega) (by rw [World.size_alloc]; omega) ?_
       intro v7 wv7 hownv7 hgrowv7 _)
    | fail)
  have hr := app_own (S := ⟨#[91]⟩) (bel_alloc (Below.refl w.heap.size w) (.cells #[.int .u8 91] 5)) hsz HO.out hownv7 hgrowv7
  have HV7 := hide hr.1
  have HB7 := hide hr.2
  clear hownv7 hgrowv7 hr c0
  generalize wv7 = w7 at *
  obtain ⟨P, hP⟩ : ∃ P, P = bs ++ (ByteArray.mk #[91]).data.toList := ⟨_, rfl⟩
  rw [← hP] at HV7
  have HPE : Hid (P = bs ++ [91]) := hP
  have hPl : P.length ≤ 400001 := by rw [hP, List.length_append]; show bs.length + 1 ≤ _; omega
  clear hP
  obtain ⟨oa, oc, rfl⟩ := own_form HV7.out
  have HBW := hide (HB1.out.trans HB7.out)
  have hs7 := HBW.out.size
  have c0 := (HBW.out.cell (p := ⟨p, 0, none⟩) hl0).trans D0.out
  go_upto_if 111 with (first
    | (go_at_call 30; refine (l3Binds_any td.k _).mono ?_; rintro e w8 ⟨rfl, hw8⟩; rw [hw8]; clear hw8 w8)
    | fail)
  obtain ⟨bb, hbe⟩ : ∃ bb, bb = bindsB td.k := ⟨_, rfl⟩
  rw [← hbe]
  go_cut [1] from 107 to 164 (fun u wx => ∃ v', v' = u ∧ Hid (wx.ownsRow w1.heap.size 5 1 v' (bs ++ headT td).length (bC (bs ++ headT td))) ∧ Hid (Below w1.heap.size w wx))
  case first =>
    rcases (show td.k = 5 ∨ td.k = 6 ∨ td.k = 7 ∨ td.k = 8 ∨ td.k = 4 by omega) with hk | hk | hk | hk | hk
    · have q7 : (td.k == 7) = false := by rw [hk]; decide
      obtain rfl : bb = true := by rw [hbe, hk]; rfl
      clear hbe
      have HHD : Hid (headT td = [91] ++ (94 :: 32 :: td.s.data.toList ++ [32]) ++ (dD td.m ++ [32])) := by
        show _ = _
        unfold headT signT
        rw [hk]
        simp
      obtain ⟨S, hS⟩ : ∃ S : ByteArray, S = ((⟨#[94]⟩ ++ ⟨#[32]⟩) ++ td.s) ++ ⟨#[32]⟩ := ⟨_, rfl⟩
      have HSE := hide hS
      have HSZ : Hid (S.size = 2 + td.s.size + 1) := by show _ = _; rw [hS, ByteArray.size_append, ByteArray.size_append, ByteArray.size_append]; rfl
      have HCV := conv_any S
      have hS1 : 0 < S.size := by rw [HSZ.out]; omega
      have hS2 : S.size ≤ 100 := by rw [HSZ.out]; omega
      have HSL : Hid (P ++ S.data.toList = (bs ++ [91]) ++ (94 :: 32 :: td.s.data.toList ++ [32])) := by
        show _ = _
        rw [HPE.out, hS]
        simp
      clear hS
      have HKE := hide hk
      rw [hk] at c0
      rw [hk] at D0
      clear hk q1 q9 q2 q3
      go_upto_region 20 with fail
      obtain ⟨x0, hx0⟩ : ∃ X, X = w7.drew := ⟨_, rfl⟩
      have Bx0 : Below w1.heap.size w7 x0 := by rw [hx0]; exact (Below.refl _ _).drew
      have Ox0 := hide (row_keep (show Below w7.heap.size w7 x0 by rw [hx0]; exact (Below.refl _ _).drew) HV7.out)
      refine anyE_region (L := 99) (S := fun w' => Below w1.heap.size w7 w') (by kernel_rfl) ?_
      rw [← hx0]
      clear hx0
      refine anyE_take2 0 (v := ?v1) rfl (by kernel_rfl) (by kernel_rfl) (by kernel_rfl) (by kernel_rfl) (fun _ _ _ h => h) (by rfl) ?hy1 Bx0 ?rest1
      case hy1 =>
        intro wx hx
        go_simp
        try rfl
      case rest1 =>
      intro K hK
      go_simp
      refine hK.out _ ?_
      clear hK K
      refine anyE_take2 2 (v := ?v2) rfl (by kernel_rfl) (by kernel_rfl) (by kernel_rfl) (by kernel_rfl) (fun _ _ _ h => h) (by rfl) ?hy2 Bx0 ?rest2
      case hy2 =>
        intro wx hx
        go_simp
        try rfl
      case rest2 =>
      intro K hK
      go_simp
      refine hK.out _ ?_
      clear hK K
      refine anyE_take2 3 (v := ?v3) rfl (by kernel_rfl) (by kernel_rfl) (by kernel_rfl) (by kernel_rfl) (fun _ _ _ h => h) (by rfl) ?hy3 Bx0 ?rest3
      case hy3 =>
        intro wx hx
        go_simp
        try rfl
      case rest3 =>
      intro K hK
      go_simp
      refine hK.out _ ?_
      clear hK K
      refine anyE_take2 4 (v := ?v4) rfl (by kernel_rfl) (by kernel_rfl) (by kernel_rfl) (by kernel_rfl) (fun _ _ _ h => h) (by rfl) ?hy4 Bx0 ?rest4
      case hy4 =>
        intro wx hx
        go_simp
        try rfl
      case rest4 =>
      intro K hK
      go_simp
      refine hK.out _ ?_
      clear hK K
      refine anyE_take2 5 (v := ?v5) rfl (by kernel_rfl) (by kernel_rfl) (by kernel_rfl) (by kernel_rfl) (fun _ _ _ h => h) (by rfl) ?hy5 Bx0 ?rest5
      case hy5 =>
        intro wx hx
        have m0 := ((HBW.out.trans hx).cell (p := ⟨p, 0, none⟩) hl0).trans D0.out
        have m1 := ((HBW.out.trans hx).cell (p := ⟨p, 1, none⟩) hl0).trans D1.out
        have m3 := ((HBW.out.trans hx).cell (p := ⟨p, 3, none⟩) hl0).trans D3.out
        go_simp
        try rfl
      case rest5 =>
      intro K hK
      go_simp
      refine hK.out _ ?_
      clear hK K
      refine anyE_take2 6 (v := ?v6) rfl (by kernel_rfl) (by kernel_rfl) (by kernel_rfl) (by kernel_rfl) (fun _ _ _ h => h) (by rfl) ?hy6 Bx0 ?rest6
      case hy6 =>
        intro wx hx
        go_simp
        try rfl
      case rest6 =>
      intro K hK
      go_simp
      refine hK.out _ ?_
      clear hK K
      refine anyE_take2 10 (v := ?v7) rfl (by kernel_rfl) (by kernel_rfl) (by kernel_rfl) (by kernel_rfl) (fun _ _ _ h => h) (by rfl) ?hy7 Bx0 ?rest7
      case hy7 =>
        intro wx hx
        go_simp
        try rfl
      case rest7 =>
      intro K hK
      go_simp
      refine hK.out _ ?_
      clear hK K
      refine anyE_take2 11 (v := ?v8) rfl (by kernel_rfl) (by kernel_rfl) (by kernel_rfl) (by kernel_rfl) (fun _ _ _ h => h) (by rfl) ?hy8 Bx0 ?rest8
      case hy8 =>
        intro wx hx
        go_simp
        try rfl
      case rest8 =>
      intro K hK
      go_simp
      refine hK.out _ ?_
      clear hK K
      refine anyE_take2 12 (v := ?v9) rfl (by kernel_rfl) (by kernel_rfl) (by kernel_rfl) (by kernel_rfl) (fun _ _ _ h => h) (by rfl) ?hy9 Bx0 ?rest9
      case hy9 =>
        intro wx hx
        go_simp
        try rfl
      case rest9 =>
      intro K hK
      go_simp
      refine hK.out _ ?_
      clear hK K
      refine anyE_take2 13 (v := ?v10) rfl (by kernel_rfl) (by kernel_rfl) (by kernel_rfl) (by kernel_rfl) (fun _ _ _ h => h) (by rfl) ?hy10 Bx0 ?rest10
      case hy10 =>
        intro wx hx
        have m0 := ((HBW.out.trans hx).cell (p := ⟨p, 0, none⟩) hl0).trans D0.out
        have m1 := ((HBW.out.trans hx).cell (p := ⟨p, 1, none⟩) hl0).trans D1.out
        have m3 := ((HBW.out.trans hx).cell (p := ⟨p, 3, none⟩) hl0).trans D3.out
        go_simp
        try rfl
      case rest10 =>
      intro K hK
      go_simp
      refine hK.out _ ?_
      clear hK K
      refine anyE_one 1 (by kernel_rfl) rfl (fun K hK => ?_)
      go_simp
      obtain ⟨x1, hx1⟩ : ∃ X, X = x0.alloc (.cells #[.string ⟨#[94]⟩, .string ⟨#[33]⟩, .string ⟨#[61]⟩] 9) := ⟨_, rfl⟩
      rw [← hx1]
      have bx1 : Below x0.heap.size x0 x1 := by rw [hx1]; exact bel_alloc (Below.refl _ _) _
      have zx0 := Bx0.size
      have zx1 := bx1.size
      have Bx1 : Below w1.heap.size w7 x1 := Bx0.trans (bx1.mono (by omega))
      have lx1 : x1.cell? ⟨x0.heap.size, 0, none⟩ = some (.string ⟨#[94]⟩) := by rw [hx1, cell_of_row _ _ _ _ _ _ (heap_alloc_new _ _)]; rfl
      have Ox1 := hide (row_keep bx1 Ox0.out)
      refine hK.out _ _ (fun _ => Bx1) ?_
      clear hK K hx1 bx1
      refine anyE_one 7 (by kernel_rfl) rfl (fun K hK => ?_)
      go_simp
      refine hK.out _ _ (fun _ => Bx1) ?_
      clear hK K
      refine anyE_one 8 (by kernel_rfl) rfl (fun K hK => ?_)
      have hwx : (IntKind.i64.wrap 0).toNat = 0 := by decide
      go_simp
      refine hK.out _ _ (fun _ => Bx1) ?_
      clear hK K
      refine anyE_one 9 (by kernel_rfl) rfl (fun K hK => ?_)
      go_simp
      refine hK.out _ _ (fun _ => Bx1) ?_
      clear hK K
      refine anyE_one 14 (by kernel_rfl) rfl (fun K hK => ?_)
      go_simp
      rw [if_neg (by omega)]
      refine hK.out _ _ (fun _ => Bx1) ?_
      clear hK K
      refine anyE_one 15 (by kernel_rfl) rfl (fun K hK => ?_)
      go_simp
      rw [if_neg (by omega), ← HSE.out]
      refine hK.out _ _ (fun _ => Bx1) ?_
      clear hK K
      refine anyE_one 16 (by kernel_rfl) rfl (fun K hK => ?_)
      go_simp
      obtain ⟨y1, hy1⟩ : ∃ X, X = Lib.bytesWorld x1 5 S := ⟨_, rfl⟩
      rw [← hy1]
      have by1 : Below x1.heap.size x1 y1 := by rw [hy1]; exact Go.Joins.below_bytesWorld _ _ 5 S (Nat.le_refl _)
      have zy1 := Bx1.size
      have sy1 := by1.size
      have By1 : Below w1.heap.size w7 y1 := Bx1.trans (by1.mono (by omega))
      have cy1 : ∀ j u, (bC S.data.toList)[j]? = some u → y1.cell? ((⟨x1.heap.size, 0, none⟩ : Addr).add j) = some u := by rw [hy1]; exact conv_cells S _
      have Oy1 := hide (row_keep by1 Ox1.out)
      refine hK.out _ _ (fun _ => By1) ?_
      clear hK K hy1 by1
      refine anyE_one 17 (by kernel_rfl) rfl (fun K hK => ?_)
      refine step_append_lies _ (by rfl) _ _ 26 (by rfl) w1.heap.size 5 i5 (.int .u8 0) 1 1 Tryz.underlying26 hi5 hz5 hs5 hb5 rfl (by omega) (.slice oa P.length oc) P.length (bC P) (by rfl) Oy1.out ⟨x1.heap.size, 0, none⟩ S.size _ (bC S.data.toList) (by rfl) (bC_size S) cy1 (bC_one _) hS1 (by unfold maxLen; omega) (by omega) (by omega) _ rfl ?_
      intro g9 c9 w9 hown9 hgrow9 _ _
      have hr := app_own2 By1 Oy1.out hown9 hgrow9 (by omega)
      refine hK.out _ _ (fun _ => hr.2) ?_
      clear hK K
      refine anyE_one 18 (by kernel_rfl) rfl (fun K hK => ?_)
      go_simp
      refine hK.out _ _ (fun _ => hr.2) ?_
      clear hK K
      refine anyE_done (by kernel_rfl) ?_ _
      have ho9 := hr.1
      rw [HSL.out] at ho9
      have HV9 := hide ho9
      have HB9 := hide (HB7.out.trans hr.2)
      clear hown9 hgrow9 hr ho9
      have c0 := ((HB1.out.trans HB9.out).cell (p := ⟨p, 0, none⟩) hl0).trans D0.out
      have c2 := ((HB1.out.trans HB9.out).cell (p := ⟨p, 2, none⟩) hl0).trans D2.out
      obtain ⟨P2, hP2⟩ : ∃ P2, P2 = (bs ++ [91]) ++ (94 :: 32 :: td.s.data.toList ++ [32]) := ⟨_, rfl⟩
      rw [← hP2] at HV9
      have HP2 := hide hP2
      have hP2l : P2.length ≤ 400100 := by rw [hP2]; simp only [List.length_append, List.length_cons, List.length_nil]; have := HSD.out; omega
      clear hP2
      obtain ⟨ga, gc, he⟩ := own_form HV9.out
      have hle : P.length + S.size = P2.length := (Value.slice.inj he).2.1
      rw [hle] at HV9 ⊢
      clear he ga gc
      obtain ⟨S2, hS2e⟩ : ∃ S : ByteArray, S = bA (dD td.m) ++ ⟨#[32]⟩ := ⟨_, rfl⟩
      have HS2E := hide hS2e
      have HS2L : Hid (S2.data.toList = dD td.m ++ [32]) := by
        show _ = _
        rw [hS2e]
        simp [bA]
      have hS2z : S2.size ≤ 9 := by rw [hS2e, ByteArray.size_append]; show (bA (dD td.m)).size + 1 ≤ 9; have := HXM.out; omega
      have HCV2 := conv_any S2
      clear hS2e
      generalize bA (dD td.m) = X at *
      have hsz9 := HB9.out.size
      have z1 := strAdd X ⟨#[32]⟩ (by have := HXM.out; show X.size + 1 ≤ _; omega)
      rw [← HS2E.out] at z1
      go_wp2_with (first
        | (go_at_call 27; refine (HDM.out _).mono ?_; rintro e w3 ⟨rfl, hb3⟩; have HB3 := hide hb3; have hs3 := hb3.size; clear hb3)
        | (at_builtin
           refine wpList_append_own _ rfl _ _ 26 rfl w1.heap.size 5 i5 (.int .u8 0) 1 1 Tryz.underlying26 hi5 hz5 hs5 hb5 rfl (by omega) (.slice (some ⟨g9, 0, none⟩) P2.length c9) P2.length (bC P2) rfl (row_keep (bel_trans HB3.out (Go.Joins.below_bytesWorld _ _ 5 S2 (Nat.le_refl _))) HV9.out) ⟨w3.heap.size, 0, none⟩ S2.size _ (bC S2.data.toList) rfl (bC_size S2) (conv_cells S2 w3) (bC_one _) (by unfold maxLen; omega) (by omega) (by rw [Lib.bytesWorld_size]; omega) ?_
           intro v10 w10 hown10 hgrow10 _)
        | fail)
      go_meet
      obtain ⟨r1, r2⟩ := app_own (bel_trans HB3.out (Go.Joins.below_bytesWorld _ _ 5 S2 (Nat.le_refl _))) (by omega) HV9.out hown10 hgrow10
      refine ⟨_, rfl, ?_, HB9.out.trans r2⟩
      show World.ownsRow _ _ _ _ _ _ _
      rw [HS2L.out, HP2.out] at r1
      rw [show bs ++ headT td = (bs ++ [91]) ++ (94 :: 32 :: td.s.data.toList ++ [32]) ++ (dD td.m ++ [32]) from by rw [HHD.out]; simp only [List.append_assoc]]
      exact r1
    · have q7 : (td.k == 7) = false := by rw [hk]; decide
      obtain rfl : bb = true := by rw [hbe, hk]; rfl
      clear hbe
      have HHD : Hid (headT td = [91] ++ (33 :: 32 :: td.s.data.toList ++ [32]) ++ (dD td.m ++ [32])) := by
        show _ = _
        unfold headT signT
        rw [hk]
        simp
      obtain ⟨S, hS⟩ : ∃ S : ByteArray, S = ((⟨#[33]⟩ ++ ⟨#[32]⟩) ++ td.s) ++ ⟨#[32]⟩ := ⟨_, rfl⟩
      have HSE := hide hS
      have HSZ : Hid (S.size = 2 + td.s.size + 1) := by show _ = _; rw [hS, ByteArray.size_append, ByteArray.size_append, ByteArray.size_append]; rfl
      have HCV := conv_any S
      have hS1 : 0 < S.size := by rw [HSZ.out]; omega
      have hS2 : S.size ≤ 100 := by rw [HSZ.out]; omega
      have HSL : Hid (P ++ S.data.toList = (bs ++ [91]) ++ (33 :: 32 :: td.s.data.toList ++ [32])) := by
        show _ = _
        rw [HPE.out, hS]
        simp
      clear hS
      have HKE := hide hk
      rw [hk] at c0
      rw [hk] at D0
      clear hk q1 q9 q2 q3
      go_upto_region 20 with fail
      obtain ⟨x0, hx0⟩ : ∃ X, X = w7.drew := ⟨_, rfl⟩
      have Bx0 : Below w1.heap.size w7 x0 := by rw [hx0]; exact (Below.refl _ _).drew
      have Ox0 := hide (row_keep (show Below w7.heap.size w7 x0 by rw [hx0]; exact (Below.refl _ _).drew) HV7.out)
      refine anyE_region (L := 99) (S := fun w' => Below w1.heap.size w7 w') (by kernel_rfl) ?_
      rw [← hx0]
      clear hx0
      refine anyE_take2 0 (v := ?v11) rfl (by kernel_rfl) (by kernel_rfl) (by kernel_rfl) (by kernel_rfl) (fun _ _ _ h => h) (by rfl) ?hy11 Bx0 ?rest11
      case hy11 =>
        intro wx hx
        go_simp
        try rfl
      case rest11 =>
      intro K hK
      go_simp
      refine hK.out _ ?_
      clear hK K
      refine anyE_take2 2 (v := ?v12) rfl (by kernel_rfl) (by kernel_rfl) (by kernel_rfl) (by kernel_rfl) (fun _ _ _ h => h) (by rfl) ?hy12 Bx0 ?rest12
      case hy12 =>
        intro wx hx
        go_simp
        try rfl
      case rest12 =>
      intro K hK
      go_simp
      refine hK.out _ ?_
      clear hK K
      refine anyE_take2 3 (v := ?v13) rfl (by kernel_rfl) (by kernel_rfl) (by kernel_rfl) (by kernel_rfl) (fun _ _ _ h => h) (by rfl) ?hy13 Bx0 ?rest13
      case hy13 =>
        intro wx hx
        go_simp
        try rfl
      case rest13 =>
      intro K hK
      go_simp
      refine hK.out _ ?_
      clear hK K
      refine anyE_take2 4 (v := ?v14) rfl (by kernel_rfl) (by kernel_rfl) (by kernel_rfl) (by kernel_rfl) (fun _ _ _ h => h) (by rfl) ?hy14 Bx0 ?rest14
      case hy14 =>
        intro wx hx
        go_simp
        try rfl
      case rest14 =>
      intro K hK
      go_simp
      refine hK.out _ ?_
      clear hK K
      refine anyE_take2 5 (v := ?v15) rfl (by kernel_rfl) (by kernel_rfl) (by kernel_rfl) (by kernel_rfl) (fun _ _ _ h => h) (by rfl) ?hy15 Bx0 ?rest15
      case hy15 =>
        intro wx hx
        have m0 := ((HBW.out.trans hx).cell (p := ⟨p, 0, none⟩) hl0).trans D0.out
        have m1 := ((HBW.out.trans hx).cell (p := ⟨p, 1, none⟩) hl0).trans D1.out
        have m3 := ((HBW.out.trans hx).cell (p := ⟨p, 3, none⟩) hl0).trans D3.out
        go_simp
        try rfl
      case rest15 =>
      intro K hK
      go_simp
      refine hK.out _ ?_
      clear hK K
      refine anyE_take2 6 (v := ?v16) rfl (by kernel_rfl) (by kernel_rfl) (by kernel_rfl) (by kernel_rfl) (fun _ _ _ h => h) (by rfl) ?hy16 Bx0 ?rest16
      case hy16 =>
        intro wx hx
        go_simp
        try rfl
      case rest16 =>
      intro K hK
      go_simp
      refine hK.out _ ?_
      clear hK K
      refine anyE_take2 10 (v := ?v17) rfl (by kernel_rfl) (by kernel_rfl) (by kernel_rfl) (by kernel_rfl) (fun _ _ _ h => h) (by rfl) ?hy17 Bx0 ?rest17
      case hy17 =>
        intro wx hx
        go_simp
        try rfl
      case rest17 =>
      intro K hK
      go_simp
      refine hK.out _ ?_
      clear hK K
      refine anyE_take2 11 (v := ?v18) rfl (by kernel_rfl) (by kernel_rfl) (by kernel_rfl) (by kernel_rfl) (fun _ _ _ h => h) (by rfl) ?hy18 Bx0 ?rest18
      case hy18 =>
        intro wx hx
        go_simp
        try rfl
      case rest18 =>
      intro K hK
      go_simp
      refine hK.out _ ?_
      clear hK K
      refine anyE_take2 12 (v := ?v19) rfl (by kernel_rfl) (by kernel_rfl) (by kernel_rfl) (by kernel_rfl) (fun _ _ _ h => h) (by rfl) ?hy19 Bx0 ?rest19
      case hy19 =>
        intro wx hx
        go_simp
        try rfl
      case rest19 =>
      intro K hK
      go_simp
      refine hK.out _ ?_
      clear hK K
      refine anyE_take2 13 (v := ?v20) rfl (by kernel_rfl) (by kernel_rfl) (by kernel_rfl) (by kernel_rfl) (fun _ _ _ h => h) (by rfl) ?hy20 Bx0 ?rest20
      case hy20 =>
        intro wx hx
        have m0 := ((HBW.out.trans hx).cell (p := ⟨p, 0, none⟩) hl0).trans D0.out
        have m1 := ((HBW.out.trans hx).cell (p := ⟨p, 1, none⟩) hl0).trans D1.out
        have m3 := ((HBW.out.trans hx).cell (p := ⟨p, 3, none⟩) hl0).trans D3.out
        go_simp
        try rfl
      case rest20 =>
      intro K hK
      go_simp
      refine hK.out _ ?_
      clear hK K
      refine anyE_one 1 (by kernel_rfl) rfl (fun K hK => ?_)
      go_simp
      obtain ⟨x1, hx1⟩ : ∃ X, X = x0.alloc (.cells #[.string ⟨#[94]⟩, .string ⟨#[33]⟩, .string ⟨#[61]⟩] 9) := ⟨_, rfl⟩
      rw [← hx1]
      have bx1 : Below x0.heap.size x0 x1 := by rw [hx1]; exact bel_alloc (Below.refl _ _) _
      have zx0 := Bx0.size
      have zx1 := bx1.size
      have Bx1 : Below w1.heap.size w7 x1 := Bx0.trans (bx1.mono (by omega))
      have lx1 : x1.cell? ⟨x0.heap.size, 1, none⟩ = some (.string ⟨#[33]⟩) := by rw [hx1, cell_of_row _ _ _ _ _ _ (heap_alloc_new _ _)]; rfl
      have Ox1 := hide (row_keep bx1 Ox0.out)
      refine hK.out _ _ (fun _ => Bx1) ?_
      clear hK K hx1 bx1
      refine anyE_one 7 (by kernel_rfl) rfl (fun K hK => ?_)
      go_simp
      refine hK.out _ _ (fun _ => Bx1) ?_
      clear hK K
      refine anyE_one 8 (by kernel_rfl) rfl (fun K hK => ?_)
      have hwx : (IntKind.i64.wrap 1).toNat = 1 := by decide
      go_simp
      refine hK.out _ _ (fun _ => Bx1) ?_
      clear hK K
      refine anyE_one 9 (by kernel_rfl) rfl (fun K hK => ?_)
      go_simp
      refine hK.out _ _ (fun _ => Bx1) ?_
      clear hK K
      refine anyE_one 14 (by kernel_rfl) rfl (fun K hK => ?_)
      go_simp
      rw [if_neg (by omega)]
      refine hK.out _ _ (fun _ => Bx1) ?_
      clear hK K
      refine anyE_one 15 (by kernel_rfl) rfl (fun K hK => ?_)
      go_simp
      rw [if_neg (by omega), ← HSE.out]
      refine hK.out _ _ (fun _ => Bx1) ?_
      clear hK K
      refine anyE_one 16 (by kernel_rfl) rfl (fun K hK => ?_)
      go_simp
      obtain ⟨y1, hy1⟩ : ∃ X, X = Lib.bytesWorld x1 5 S := ⟨_, rfl⟩
      rw [← hy1]
      have by1 : Below x1.heap.size x1 y1 := by rw [hy1]; exact Go.Joins.below_bytesWorld _ _ 5 S (Nat.le_refl _)
      have zy1 := Bx1.size
      have sy1 := by1.size
      have By1 : Below w1.heap.size w7 y1 := Bx1.trans (by1.mono (by omega))
      have cy1 : ∀ j u, (bC S.data.toList)[j]? = some u → y1.cell? ((⟨x1.heap.size, 0, none⟩ : Addr).add j) = some u := by rw [hy1]; exact conv_cells S _
      have Oy1 := hide (row_keep by1 Ox1.out)
      refine hK.out _ _ (fun _ => By1) ?_
      clear hK K hy1 by1
      refine anyE_one 17 (by kernel_rfl) rfl (fun K hK => ?_)
      refine step_append_lies _ (by rfl) _ _ 26 (by rfl) w1.heap.size 5 i5 (.int .u8 0) 1 1 Tryz.underlying26 hi5 hz5 hs5 hb5 rfl (by omega) (.slice oa P.length oc) P.length (bC P) (by rfl) Oy1.out ⟨x1.heap.size, 0, none⟩ S.size _ (bC S.data.toList) (by rfl) (bC_size S) cy1 (bC_one _) hS1 (by unfold maxLen; omega) (by omega) (by omega) _ rfl ?_
      intro g9 c9 w9 hown9 hgrow9 _ _
      have hr := app_own2 By1 Oy1.out hown9 hgrow9 (by omega)
      refine hK.out _ _ (fun _ => hr.2) ?_
      clear hK K
      refine anyE_one 18 (by kernel_rfl) rfl (fun K hK => ?_)
      go_simp
      refine hK.out _ _ (fun _ => hr.2) ?_
      clear hK K
      refine anyE_done (by kernel_rfl) ?_ _
      have ho9 := hr.1
      rw [HSL.out] at ho9
      have HV9 := hide ho9
      have HB9 := hide (HB7.out.trans hr.2)
      clear hown9 hgrow9 hr ho9
      have c0 := ((HB1.out.trans HB9.out).cell (p := ⟨p, 0, none⟩) hl0).trans D0.out
      have c2 := ((HB1.out.trans HB9.out).cell (p := ⟨p, 2, none⟩) hl0).trans D2.out
      obtain ⟨P2, hP2⟩ : ∃ P2, P2 = (bs ++ [91]) ++ (33 :: 32 :: td.s.data.toList ++ [32]) := ⟨_, rfl⟩
      rw [← hP2] at HV9
      have HP2 := hide hP2
      have hP2l : P2.length ≤ 400100 := by rw [hP2]; simp only [List.length_append, List.length_cons, List.length_nil]; have := HSD.out; omega
      clear hP2
      obtain ⟨ga, gc, he⟩ := own_form HV9.out
      have hle : P.length + S.size = P2.length := (Value.slice.inj he).2.1
      rw [hle] at HV9 ⊢
      clear he ga gc
      obtain ⟨S2, hS2e⟩ : ∃ S : ByteArray, S = bA (dD td.m) ++ ⟨#[32]⟩ := ⟨_, rfl⟩
      have HS2E := hide hS2e
      have HS2L : Hid (S2.data.toList = dD td.m ++ [32]) := by
        show _ = _
        rw [hS2e]
        simp [bA]
      have hS2z : S2.size ≤ 9 := by rw [hS2e, ByteArray.size_append]; show (bA (dD td.m)).size + 1 ≤ 9; have := HXM.out; omega
      have HCV2 := conv_any S2
      clear hS2e
      generalize bA (dD td.m) = X at *
      have hsz9 := HB9.out.size
      have z1 := strAdd X ⟨#[32]⟩ (by have := HXM.out; show X.size + 1 ≤ _; omega)
      rw [← HS2E.out] at z1
      go_wp2_with (first
        | (go_at_call 27; refine (HDM.out _).mono ?_; rintro e w3 ⟨rfl, hb3⟩; have HB3 := hide hb3; have hs3 := hb3.size; clear hb3)
        | (at_builtin
           refine wpList_append_own _ rfl _ _ 26 rfl w1.heap.size 5 i5 (.int .u8 0) 1 1 Tryz.underlying26 hi5 hz5 hs5 hb5 rfl (by omega) (.slice (some ⟨g9, 0, none⟩) P2.length c9) P2.length (bC P2) rfl (row_keep (bel_trans HB3.out (Go.Joins.below_bytesWorld _ _ 5 S2 (Nat.le_refl _))) HV9.out) ⟨w3.heap.size, 0, none⟩ S2.size _ (bC S2.data.toList) rfl (bC_size S2) (conv_cells S2 w3) (bC_one _) (by unfold maxLen; omega) (by omega) (by rw [Lib.bytesWorld_size]; omega) ?_
           intro v10 w10 hown10 hgrow10 _)
        | fail)
      go_meet
      obtain ⟨r1, r2⟩ := app_own (bel_trans HB3.out (Go.Joins.below_bytesWorld _ _ 5 S2 (Nat.le_refl _))) (by omega) HV9.out hown10 hgrow10
      refine ⟨_, rfl, ?_, HB9.out.trans r2⟩
      show World.ownsRow _ _ _ _ _ _ _
      rw [HS2L.out, HP2.out] at r1
      rw [show bs ++ headT td = (bs ++ [91]) ++ (33 :: 32 :: td.s.data.toList ++ [32]) ++ (dD td.m ++ [32]) from by rw [HHD.out]; simp only [List.append_assoc]]
      exact r1
    · have q7 : (td.k == 7) = true := by rw [hk]; decide
      obtain rfl : bb = true := by rw [hbe, hk]; rfl
      clear hbe
      have HHD : Hid (headT td = [91] ++ (61 :: 32 :: td.s.data.toList ++ [32])) := by
        show _ = _
        unfold headT signT
        rw [hk]
        simp
      obtain ⟨S, hS⟩ : ∃ S : ByteArray, S = ((⟨#[61]⟩ ++ ⟨#[32]⟩) ++ td.s) ++ ⟨#[32]⟩ := ⟨_, rfl⟩
      have HSE := hide hS
      have HSZ : Hid (S.size = 2 + td.s.size + 1) := by show _ = _; rw [hS, ByteArray.size_append, ByteArray.size_append, ByteArray.size_append]; rfl
      have HCV := conv_any S
      have hS1 : 0 < S.size := by rw [HSZ.out]; omega
      have hS2 : S.size ≤ 100 := by rw [HSZ.out]; omega
      have HSL : Hid (P ++ S.data.toList = (bs ++ [91]) ++ (61 :: 32 :: td.s.data.toList ++ [32])) := by
        show _ = _
        rw [HPE.out, hS]
        simp
      clear hS
      have HKE := hide hk
      rw [hk] at c0
      rw [hk] at D0
      clear hk q1 q9 q2 q3
      go_upto_region 20 with fail
      obtain ⟨x0, hx0⟩ : ∃ X, X = w7.drew := ⟨_, rfl⟩
      have Bx0 : Below w1.heap.size w7 x0 := by rw [hx0]; exact (Below.refl _ _).drew
      have Ox0 := hide (row_keep (show Below w7.heap.size w7 x0 by rw [hx0]; exact (Below.refl _ _).drew) HV7.out)
      refine anyE_region (L := 99) (S := fun w' => Below w1.heap.size w7 w') (by kernel_rfl) ?_
      rw [← hx0]
      clear hx0
      refine anyE_take2 0 (v := ?v21) rfl (by kernel_rfl) (by kernel_rfl) (by kernel_rfl) (by kernel_rfl) (fun _ _ _ h => h) (by rfl) ?hy21 Bx0 ?rest21
      case hy21 =>
        intro wx hx
        go_simp
        try rfl
      case rest21 =>
      intro K hK
      go_simp
      refine hK.out _ ?_
      clear hK K
      refine anyE_take2 2 (v := ?v22) rfl (by kernel_rfl) (by kernel_rfl) (by kernel_rfl) (by kernel_rfl) (fun _ _ _ h => h) (by rfl) ?hy22 Bx0 ?rest22
      case hy22 =>
        intro wx hx
        go_simp
        try rfl
      case rest22 =>
      intro K hK
      go_simp
      refine hK.out _ ?_
      clear hK K
      refine anyE_take2 3 (v := ?v23) rfl (by kernel_rfl) (by kernel_rfl) (by kernel_rfl) (by kernel_rfl) (fun _ _ _ h => h) (by rfl) ?hy23 Bx0 ?rest23
      case hy23 =>
        intro wx hx
        go_simp
        try rfl
      case rest23 =>
      intro K hK
      go_simp
      refine hK.out _ ?_
      clear hK K
      refine anyE_take2 4 (v := ?v24) rfl (by kernel_rfl) (by kernel_rfl) (by kernel_rfl) (by kernel_rfl) (fun _ _ _ h => h) (by rfl) ?hy24 Bx0 ?rest24
      case hy24 =>
        intro wx hx
        go_simp
        try rfl
      case rest24 =>
      intro K hK
      go_simp
      refine hK.out _ ?_
      clear hK K
      refine anyE_take2 5 (v := ?v25) rfl (by kernel_rfl) (by kernel_rfl) (by kernel_rfl) (by kernel_rfl) (fun _ _ _ h => h) (by rfl) ?hy25 Bx0 ?rest25
      case hy25 =>
        intro wx hx
        have m0 := ((HBW.out.trans hx).cell (p := ⟨p, 0, none⟩) hl0).trans D0.out
        have m1 := ((HBW.out.trans hx).cell (p := ⟨p, 1, none⟩) hl0).trans D1.out
        have m3 := ((HBW.out.trans hx).cell (p := ⟨p, 3, none⟩) hl0).trans D3.out
        go_simp
        try rfl
      case rest25 =>
      intro K hK
      go_simp
      refine hK.out _ ?_
      clear hK K
      refine anyE_take2 6 (v := ?v26) rfl (by kernel_rfl) (by kernel_rfl) (by kernel_rfl) (by kernel_rfl) (fun _ _ _ h => h) (by rfl) ?hy26 Bx0 ?rest26
      case hy26 =>
        intro wx hx
        go_simp
        try rfl
      case rest26 =>
      intro K hK
      go_simp
      refine hK.out _ ?_
      clear hK K
      refine anyE_take2 10 (v := ?v27) rfl (by kernel_rfl) (by kernel_rfl) (by kernel_rfl) (by kernel_rfl) (fun _ _ _ h => h) (by rfl) ?hy27 Bx0 ?rest27
      case hy27 =>
        intro wx hx
        go_simp
        try rfl
      case rest27 =>
      intro K hK
      go_simp
      refine hK.out _ ?_
      clear hK K
      refine anyE_take2 11 (v := ?v28) rfl (by kernel_rfl) (by kernel_rfl) (by kernel_rfl) (by kernel_rfl) (fun _ _ _ h => h) (by rfl) ?hy28 Bx0 ?rest28
      case hy28 =>
        intro wx hx
        go_simp
        try rfl
      case rest28 =>
      intro K hK
      go_simp
      refine hK.out _ ?_
      clear hK K
      refine anyE_take2 12 (v := ?v29) rfl (by kernel_rfl) (by kernel_rfl) (by kernel_rfl) (by kernel_rfl) (fun _ _ _ h => h) (by rfl) ?hy29 Bx0 ?rest29
      case hy29 =>
        intro wx hx
        go_simp
        try rfl
      case rest29 =>
      intro K hK
      go_simp
      refine hK.out _ ?_
      clear hK K
      refine anyE_take2 13 (v := ?v30) rfl (by kernel_rfl) (by kernel_rfl) (by kernel_rfl) (by kernel_rfl) (fun _ _ _ h => h) (by rfl) ?hy30 Bx0 ?rest30
      case hy30 =>
        intro wx hx
        have m0 := ((HBW.out.trans hx).cell (p := ⟨p, 0, none⟩) hl0).trans D0.out
        have m1 := ((HBW.out.trans hx).cell (p := ⟨p, 1, none⟩) hl0).trans D1.out
        have m3 := ((HBW.out.trans hx).cell (p := ⟨p, 3, none⟩) hl0).trans D3.out
        go_simp
        try rfl
      case rest30 =>
      intro K hK
      go_simp
      refine hK.out _ ?_
      clear hK K
      refine anyE_one 1 (by kernel_rfl) rfl (fun K hK => ?_)
      go_simp
      obtain ⟨x1, hx1⟩ : ∃ X, X = x0.alloc (.cells #[.string ⟨#[94]⟩, .string ⟨#[33]⟩, .string ⟨#[61]⟩] 9) := ⟨_, rfl⟩
      rw [← hx1]
      have bx1 : Below x0.heap.size x0 x1 := by rw [hx1]; exact bel_alloc (Below.refl _ _) _
      have zx0 := Bx0.size
      have zx1 := bx1.size
      have Bx1 : Below w1.heap.size w7 x1 := Bx0.trans (bx1.mono (by omega))
      have lx1 : x1.cell? ⟨x0.heap.size, 2, none⟩ = some (.string ⟨#[61]⟩) := by rw [hx1, cell_of_row _ _ _ _ _ _ (heap_alloc_new _ _)]; rfl
      have Ox1 := hide (row_keep bx1 Ox0.out)
      refine hK.out _ _ (fun _ => Bx1) ?_
      clear hK K hx1 bx1
      refine anyE_one 7 (by kernel_rfl) rfl (fun K hK => ?_)
      go_simp
      refine hK.out _ _ (fun _ => Bx1) ?_
      clear hK K
      refine anyE_one 8 (by kernel_rfl) rfl (fun K hK => ?_)
      have hwx : (IntKind.i64.wrap 2).toNat = 2 := by decide
      go_simp
      refine hK.out _ _ (fun _ => Bx1) ?_
      clear hK K
      refine anyE_one 9 (by kernel_rfl) rfl (fun K hK => ?_)
      go_simp
      refine hK.out _ _ (fun _ => Bx1) ?_
      clear hK K
      refine anyE_one 14 (by kernel_rfl) rfl (fun K hK => ?_)
      go_simp
      rw [if_neg (by omega)]
      refine hK.out _ _ (fun _ => Bx1) ?_
      clear hK K
      refine anyE_one 15 (by kernel_rfl) rfl (fun K hK => ?_)
      go_simp
      rw [if_neg (by omega), ← HSE.out]
      refine hK.out _ _ (fun _ => Bx1) ?_
      clear hK K
      refine anyE_one 16 (by kernel_rfl) rfl (fun K hK => ?_)
      go_simp
      obtain ⟨y1, hy1⟩ : ∃ X, X = Lib.bytesWorld x1 5 S := ⟨_, rfl⟩
      rw [← hy1]
      have by1 : Below x1.heap.size x1 y1 := by rw [hy1]; exact Go.Joins.below_bytesWorld _ _ 5 S (Nat.le_refl _)
      have zy1 := Bx1.size
      have sy1 := by1.size
      have By1 : Below w1.heap.size w7 y1 := Bx1.trans (by1.mono (by omega))
      have cy1 : ∀ j u, (bC S.data.toList)[j]? = some u → y1.cell? ((⟨x1.heap.size, 0, none⟩ : Addr).add j) = some u := by rw [hy1]; exact conv_cells S _
      have Oy1 := hide (row_keep by1 Ox1.out)
      refine hK.out _ _ (fun _ => By1) ?_
      clear hK K hy1 by1
      refine anyE_one 17 (by kernel_rfl) rfl (fun K hK => ?_)
      refine step_append_lies _ (by rfl) _ _ 26 (by rfl) w1.heap.size 5 i5 (.int .u8 0) 1 1 Tryz.underlying26 hi5 hz5 hs5 hb5 rfl (by omega) (.slice oa P.length oc) P.length (bC P) (by rfl) Oy1.out ⟨x1.heap.size, 0, none⟩ S.size _ (bC S.data.toList) (by rfl) (bC_size S) cy1 (bC_one _) hS1 (by unfold maxLen; omega) (by omega) (by omega) _ rfl ?_
      intro g9 c9 w9 hown9 hgrow9 _ _
      have hr := app_own2 By1 Oy1.out hown9 hgrow9 (by omega)
      refine hK.out _ _ (fun _ => hr.2) ?_
      clear hK K
      refine anyE_one 18 (by kernel_rfl) rfl (fun K hK => ?_)
      go_simp
      refine hK.out _ _ (fun _ => hr.2) ?_
      clear hK K
      refine anyE_done (by kernel_rfl) ?_ _
      have ho9 := hr.1
      rw [HSL.out] at ho9
      have HV9 := hide ho9
      have HB9 := hide (HB7.out.trans hr.2)
      clear hown9 hgrow9 hr ho9
      have c0 := ((HB1.out.trans HB9.out).cell (p := ⟨p, 0, none⟩) hl0).trans D0.out
      go_wp2_with fail
      go_meet
      refine ⟨_, rfl, ?_, HB9⟩
      show World.ownsRow _ _ _ _ _ _ _
      rw [HHD.out, ← List.append_assoc]
      exact HV9.out
    · have q8 : (td.k == 8) = true := by rw [hk]; decide
      obtain rfl : bb = false := by rw [hbe, hk]; rfl
      clear hbe
      have HHD : Hid (headT td = [91] ++ (46 :: 32 :: td.s.data.toList ++ [32] ++ dD td.n ++ [32])) := by
        show _ = _
        unfold headT
        rw [hk]
        simp
      obtain ⟨S, hS⟩ : ∃ S : ByteArray, S = ((⟨#[46, 32]⟩ ++ td.s) ++ ⟨#[32]⟩ ++ bA (dD td.n)) ++ ⟨#[32]⟩ := ⟨_, rfl⟩
      have HSL : Hid (P ++ S.data.toList = bs ++ headT td) := by
        show _ = _
        rw [HPE.out, HHD.out, hS]
        simp [bA]
      generalize bA (dD td.n) = X at *
      have HX8 := HXN.out
      have HSE := hide hS
      have HSZ : Hid (S.size = 2 + td.s.size + 1 + X.size + 1) := by show _ = _; rw [hS, ByteArray.size_append, ByteArray.size_append, ByteArray.size_append, ByteArray.size_append]; rfl
      have HCV := conv_any S
      have hS1 : 0 < S.size := by rw [HSZ.out]; omega
      have hS2 : S.size ≤ 100 := by rw [HSZ.out]; omega
      clear hS hk
      go_upto_region 24 with fail
      obtain ⟨x0, hx0⟩ : ∃ X, X = w7.drew := ⟨_, rfl⟩
      have Bx0 : Below w1.heap.size w7 x0 := by rw [hx0]; exact (Below.refl _ _).drew
      have Ox0 := hide (row_keep (show Below w7.heap.size w7 x0 by rw [hx0]; exact (Below.refl _ _).drew) HV7.out)
      refine anyE_region (L := 99) (S := fun w' => Below w1.heap.size w7 w') (by kernel_rfl) ?_
      rw [← hx0]
      clear hx0
      refine anyE_take2 0 (v := ?v31) rfl (by kernel_rfl) (by kernel_rfl) (by kernel_rfl) (by kernel_rfl) (fun _ _ _ h => h) (by rfl) ?hy31 Bx0 ?rest31
      case hy31 =>
        intro wx hx
        go_simp
        try rfl
      case rest31 =>
      intro K hK
      go_simp
      refine hK.out _ ?_
      clear hK K
      refine anyE_take2 1 (v := ?v32) rfl (by kernel_rfl) (by kernel_rfl) (by kernel_rfl) (by kernel_rfl) (fun _ _ _ h => h) (by rfl) ?hy32 Bx0 ?rest32
      case hy32 =>
        intro wx hx
        go_simp
        try rfl
      case rest32 =>
      intro K hK
      go_simp
      refine hK.out _ ?_
      clear hK K
      refine anyE_take2 2 (v := ?v33) rfl (by kernel_rfl) (by kernel_rfl) (by kernel_rfl) (by kernel_rfl) (fun _ _ _ h => h) (by rfl) ?hy33 Bx0 ?rest33
      case hy33 =>
        intro wx hx
        go_simp
        try rfl
      case rest33 =>
      intro K hK
      go_simp
      refine hK.out _ ?_
      clear hK K
      refine anyE_take2 3 (v := ?v34) rfl (by kernel_rfl) (by kernel_rfl) (by kernel_rfl) (by kernel_rfl) (fun _ _ _ h => h) (by rfl) ?hy34 Bx0 ?rest34
      case hy34 =>
        intro wx hx
        go_simp
        try rfl
      case rest34 =>
      intro K hK
      go_simp
      refine hK.out _ ?_
      clear hK K
      refine anyE_take2 4 (v := ?v35) rfl (by kernel_rfl) (by kernel_rfl) (by kernel_rfl) (by kernel_rfl) (fun _ _ _ h => h) (by rfl) ?hy35 Bx0 ?rest35
      case hy35 =>
        intro wx hx
        have m0 := ((HBW.out.trans hx).cell (p := ⟨p, 0, none⟩) hl0).trans D0.out
        have m1 := ((HBW.out.trans hx).cell (p := ⟨p, 1, none⟩) hl0).trans D1.out
        have m3 := ((HBW.out.trans hx).cell (p := ⟨p, 3, none⟩) hl0).trans D3.out
        go_simp
        try rfl
      case rest35 =>
      intro K hK
      go_simp
      refine hK.out _ ?_
      clear hK K
      refine anyE_take2 7 (v := ?v36) rfl (by kernel_rfl) (by kernel_rfl) (by kernel_rfl) (by kernel_rfl) (fun _ _ _ h => h) (by rfl) ?hy36 Bx0 ?rest36
      case hy36 =>
        intro wx hx
        go_simp
        try rfl
      case rest36 =>
      intro K hK
      go_simp
      refine hK.out _ ?_
      clear hK K
      refine anyE_take2 8 (v := ?v37) rfl (by kernel_rfl) (by kernel_rfl) (by kernel_rfl) (by kernel_rfl) (fun _ _ _ h => h) (by rfl) ?hy37 Bx0 ?rest37
      case hy37 =>
        intro wx hx
        go_simp
        try rfl
      case rest37 =>
      intro K hK
      go_simp
      refine hK.out _ ?_
      clear hK K
      refine anyE_take2 9 (v := ?v38) rfl (by kernel_rfl) (by kernel_rfl) (by kernel_rfl) (by kernel_rfl) (fun _ _ _ h => h) (by rfl) ?hy38 Bx0 ?rest38
      case hy38 =>
        intro wx hx
        go_simp
        try rfl
      case rest38 =>
      intro K hK
      go_simp
      refine hK.out _ ?_
      clear hK K
      refine anyE_take2 10 (v := ?v39) rfl (by kernel_rfl) (by kernel_rfl) (by kernel_rfl) (by kernel_rfl) (fun _ _ _ h => h) (by rfl) ?hy39 Bx0 ?rest39
      case hy39 =>
        intro wx hx
        have m0 := ((HBW.out.trans hx).cell (p := ⟨p, 0, none⟩) hl0).trans D0.out
        have m1 := ((HBW.out.trans hx).cell (p := ⟨p, 1, none⟩) hl0).trans D1.out
        have m3 := ((HBW.out.trans hx).cell (p := ⟨p, 3, none⟩) hl0).trans D3.out
        go_simp
        try rfl
      case rest39 =>
      intro K hK
      go_simp
      refine hK.out _ ?_
      clear hK K
      refine anyE_take2 5 (v := ?v40) rfl (by kernel_rfl) (by kernel_rfl) (by kernel_rfl) (by kernel_rfl) (fun _ _ _ h => h) (by rfl) ?hy40 Bx0 ?rest40
      case hy40 =>
        intro wx hx
        go_simp
        rw [if_neg (by omega)]
        try rfl
      case rest40 =>
      intro K hK
      go_simp
      refine hK.out _ ?_
      clear hK K
      refine anyE_take2 6 (v := ?v41) rfl (by kernel_rfl) (by kernel_rfl) (by kernel_rfl) (by kernel_rfl) (fun _ _ _ h => h) (by rfl) ?hy41 Bx0 ?rest41
      case hy41 =>
        intro wx hx
        go_simp
        rw [if_neg (by omega)]
        try rfl
      case rest41 =>
      intro K hK
      go_simp
      refine hK.out _ ?_
      clear hK K
      refine anyE_one 11 (by kernel_rfl) rfl (fun K hK => ?_)
      go_simp
      refine (HDN.out _).mono ?_
      rintro e x1 ⟨rfl, bx1⟩
      have zx0 := Bx0.size
      have zx1 := bx1.size
      have Bx1 : Below w1.heap.size w7 x1 := Bx0.trans (bx1.mono (by omega))
      have Ox1 := hide (row_keep bx1 Ox0.out)
      refine hK.out _ _ (fun _ => Bx1) ?_
      clear hK K bx1
      refine anyE_one 12 (by kernel_rfl) rfl (fun K hK => ?_)
      go_simp
      rw [if_neg (by omega)]
      refine hK.out _ _ (fun _ => Bx1) ?_
      clear hK K
      refine anyE_one 13 (by kernel_rfl) rfl (fun K hK => ?_)
      go_simp
      rw [if_neg (by omega), ← HSE.out]
      refine hK.out _ _ (fun _ => Bx1) ?_
      clear hK K
      refine anyE_one 14 (by kernel_rfl) rfl (fun K hK => ?_)
      go_simp
      obtain ⟨y1, hy1⟩ : ∃ X, X = Lib.bytesWorld x1 5 S := ⟨_, rfl⟩
      rw [← hy1]
      have by1 : Below x1.heap.size x1 y1 := by rw [hy1]; exact Go.Joins.below_bytesWorld _ _ 5 S (Nat.le_refl _)
      have zy1 := Bx1.size
      have sy1 := by1.size
      have By1 : Below w1.heap.size w7 y1 := Bx1.trans (by1.mono (by omega))
      have cy1 : ∀ j u, (bC S.data.toList)[j]? = some u → y1.cell? ((⟨x1.heap.size, 0, none⟩ : Addr).add j) = some u := by rw [hy1]; exact conv_cells S _
      have Oy1 := hide (row_keep by1 Ox1.out)
      refine hK.out _ _ (fun _ => By1) ?_
      clear hK K hy1 by1
      refine anyE_one 15 (by kernel_rfl) rfl (fun K hK => ?_)
      refine step_append_lies _ (by rfl) _ _ 26 (by rfl) w1.heap.size 5 i5 (.int .u8 0) 1 1 Tryz.underlying26 hi5 hz5 hs5 hb5 rfl (by omega) (.slice oa P.length oc) P.length (bC P) (by rfl) Oy1.out ⟨x1.heap.size, 0, none⟩ S.size _ (bC S.data.toList) (by rfl) (bC_size S) cy1 (bC_one _) hS1 (by unfold maxLen; omega) (by omega) (by omega) _ rfl ?_
      intro g9 c9 w9 hown9 hgrow9 _ _
      have hr := app_own2 By1 Oy1.out hown9 hgrow9 (by omega)
      refine hK.out _ _ (fun _ => hr.2) ?_
      clear hK K
      refine anyE_one 16 (by kernel_rfl) rfl (fun K hK => ?_)
      go_simp
      refine hK.out _ _ (fun _ => hr.2) ?_
      clear hK K
      refine anyE_done (by kernel_rfl) ?_ _
      have ho9 := hr.1
      rw [HSL.out] at ho9
      have HV9 := hide ho9
      have HB9 := hide (HB7.out.trans hr.2)
      clear hown9 hgrow9 hr ho9
      go_wp2_with fail
      go_meet
      exact ⟨_, rfl, HV9, HB9⟩
    · have q8 : (td.k == 8) = false := by rw [hk]; decide
      obtain rfl : bb = false := by rw [hbe, hk]; rfl
      clear hbe
      have HHD : Hid (headT td = [91]) := by
        show _ = _
        unfold headT
        rw [hk]
        simp
      clear hk
      go_wp2_with fail
      go_meet
      refine ⟨_, rfl, ?_, HB7⟩
      show World.ownsRow _ _ _ _ _ _ _
      rw [HHD.out, ← HPE.out]
      exact HV7.out
  case rest =>
    clear hbe
    obtain ⟨v', rfl, HV8, HB8⟩ := hcut
    clear HV7 HB7 HBW c0 hs7 HPE hPl HDM HDN HXM HXN
    have hH : (bs ++ headT td).length ≤ 400100 := by rw [List.length_append]; have := HHL.out; omega
    generalize bs ++ headT td = H at *
    go_wp2_with fail
    go_loopw [1, 6] (fun ov iv wr => ∃ (j : Nat) (v' : Value), iv = .int .i64 j ∧ v' = ov ∧ j ≤ td.kids.length ∧ Hid (wr.ownsRow w1.heap.size 5 1 v' (kidsT (wrT ts f) td.kids j H).length (bC (kidsT (wrT ts f) td.kids j H))) ∧ Hid (Below w1.heap.size w wr)) (fun _ iv _ => td.kids.length - (intOf iv).toNat)
    case atStart => exact ⟨0, _, rfl, rfl, by omega, HV8, HB8⟩
    case round =>
      clear HV8 HB8
      obtain ⟨j, v', rfl, rfl, hj, HV, HB⟩ := hrel
      have HBR := hide (HB1.out.trans HB.out)
      have c5 := (HBR.out.cell (p := ⟨p, 5, none⟩) hl0).trans D5.out
      have hsr := HBR.out.size
      have HPL := hide (HL1.out H j)
      have HKS : Hid (∀ (hlt : j < td.kids.length), kidsT (wrT ts f) td.kids (j + 1) H = wrT ts f (td.kids[j]).toNat (kidsT (wrT ts f) td.kids j H ++ (if j = 0 then [] else [32]))) := by
        show ∀ _, _
        intro hlt
        conv => lhs; unfold kidsT
        rw [List.getD_eq_getElem?_getD, List.getElem?_eq_getElem hlt]
        rfl
      obtain ⟨P, hP⟩ : ∃ P, P = kidsT (wrT ts f) td.kids j H := ⟨_, rfl⟩
      rw [← hP] at HV HPL HKS
      have hPl : P.length ≤ 540200 := by have := HPL.out; omega
      have HPE := hide hP
      clear hP
      obtain ⟨oa, oc, rfl⟩ := own_form HV.out
      by_cases hlt : j < td.kids.length
      · have hlt' : (j : Int) < (td.kids.length : Int) := by omega
        obtain ⟨kb, ko, rfl, cg⟩ := HKX.out j hlt
        have hkb : kb < w1.heap.size := lt_cell cg
        have HCG := hide cg
        have HS1 := hide (HIH.out _ (List.getElem_mem hlt))
        have HK1 := hide (HKS.out hlt)
        clear cg HKS HPL
        generalize (td.kids[j]).toNat = c at *
        have c6 := (HBR.out.cell (p := ⟨kb, ko + j, none⟩) hkb).trans HCG.out
        by_cases hj0 : j = 0
        · have hj0' : ¬ (0 : Int) < (j : Int) := by omega
          have HJ0 := hide hj0
          clear hj0
          go_wp2_with (first
            | (go_at_call 16; refine (HS1.out P _ _ HBR.out HV.out (by omega)).mono ?_; rintro e w9 ⟨v9, rfl, ho9, hb9⟩; have HV9 := hide ho9; have HB9 := hide (HB.out.trans hb9); clear ho9 hb9)
            | fail)
          go_roundw
          case rel =>
            refine ⟨j + 1, _, by go_num, rfl, by omega, ?_, HB9⟩
            show World.ownsRow _ _ _ _ _ _ _
            rw [HK1.out, if_pos HJ0.out, List.append_nil]
            exact HV9.out
          case measure => simp [intOf]; omega
        · have hj0' : (0 : Int) < (j : Int) := by omega
          have HJ0 := hide hj0
          clear hj0
          go_upto_region 30 with (first
            | (at_builtin
               refine wpList_append_own _ rfl _ _ 26 rfl w1.heap.size 5 i5 (.int .u8 0) 1 1 Tryz.underlying26 hi5 hz5 hs5 hb5 rfl (by omega) (.slice oa P.length oc) P.length (bC P) rfl (row_keep (bel_alloc (Below.refl wr.heap.size wr) _) HV.out) ⟨wr.heap.size, 0, none⟩ 1 _ (bC [32]) rfl rfl (lit_cells wr [32]) (bC_one _) (by unfold maxLen; omega) (by omega) (by rw [World.size_alloc]; omega) ?_
               intro v7 wv7 hownv7 hgrowv7 _)
            | fail)
          have hr := app_own (S := ⟨#[32]⟩) (bel_alloc (Below.refl wr.heap.size wr) (.cells #[.int .u8 32] 5)) hsr HV.out hownv7 hgrowv7
          have HV7 : Hid (wv7.ownsRow w1.heap.size 5 1 v7 (P ++ [32]).length (bC (P ++ [32]))) := hr.1
          have HB7 := hide hr.2
          clear hownv7 hgrowv7 hr c5 c6
          obtain ⟨P2, hP2⟩ : ∃ P2, P2 = P ++ [(32 : UInt8)] := ⟨_, rfl⟩
          rw [← hP2] at HV7
          have hP2l : P2.length ≤ 600000 := by rw [hP2, List.length_append]; show P.length + 1 ≤ _; omega
          have HP2 := hide hP2
          clear hP2
          obtain ⟨ob, od, rfl⟩ := own_form HV7.out
          have HB17 := hide (HBR.out.trans HB7.out)
          have c5 := (HB17.out.cell (p := ⟨p, 5, none⟩) hl0).trans D5.out
          have c6 := (HB17.out.cell (p := ⟨kb, ko + j, none⟩) hkb).trans HCG.out
          go_wp2_with (first
            | (go_at_call 16; refine (HS1.out P2 _ _ HB17.out HV7.out hP2l).mono ?_; rintro e w9 ⟨v9, rfl, ho9, hb9⟩; have HV9 := hide ho9; have HB9 := hide ((HB.out.trans HB7.out).trans hb9); clear ho9 hb9)
            | fail)
          go_roundw
          case rel =>
            refine ⟨j + 1, _, by go_num, rfl, by omega, ?_, HB9⟩
            show World.ownsRow _ _ _ _ _ _ _
            rw [HK1.out, if_neg HJ0.out, ← HP2.out]
            exact HV9.out
          case measure => simp [intOf]; omega
      · have hjl : j = td.kids.length := by omega
        have hjl' : (j : Int) = (td.kids.length : Int) := by omega
        have hnl : ¬ (j : Int) < (td.kids.length : Int) := by omega
        have HJL := hide hjl
        clear hlt hjl
        go_wp2_with (first
          | (at_builtin
             refine wpList_append_own _ rfl _ _ 26 rfl w1.heap.size 5 i5 (.int .u8 0) 1 1 Tryz.underlying26 hi5 hz5 hs5 hb5 rfl (by omega) (.slice oa P.length oc) P.length (bC P) rfl (row_keep (bel_alloc (Below.refl wr.heap.size wr) _) HV.out) ⟨wr.heap.size, 0, none⟩ 1 _ (bC [93]) rfl rfl (lit_cells wr [93]) (bC_one _) (by unfold maxLen; omega) (by omega) (by rw [World.size_alloc]; omega) ?_
             intro v7 wv7 hownv7 hgrowv7 _)
          | fail)
        have hr := app_own (S := ⟨#[93]⟩) (bel_alloc (Below.refl wr.heap.size wr) (.cells #[.int .u8 93] 5)) hsr HV.out hownv7 hgrowv7
        have hx1 : wv7.ownsRow w1.heap.size 5 1 v7 (P ++ [93]).length (bC (P ++ [93])) := hr.1
        have hx2 := hr.2
        rw [HPE.out, HJL.out] at hx1
        clear hownv7 hgrowv7 hr
        go_ret
        exact ⟨_, rfl, hx1, HB.out.trans hx2⟩
end Go.Proofs.YtcagcfhnbphggaaGreatDoor
