/- The store, new; a term read into it. -/
import Derived.Test.YtpmpooekpeocdaaGreatFoA
import Derived.Test.YtpmpooekpeocdaaGreatTSpD
import Derived.OwnWalk
namespace Go.Proofs.YtpmpooekpeocdaaGreat
open Go.ChangeShapes Go.WideShapes Go.ChangeAt Go.RowKit

theorem heap_alloc_at {k : Nat} (W : World) (o : Obj) (h : k = W.heap.size) : (W.alloc o).heap[k]? = some o := by subst h; exact heap_alloc_new W o
set_option maxRecDepth 20000 in
set_option maxHeartbeats 4000000 in
theorem newStore_any (w : World) : Calls Tryz.prog 42 #[] w fun e w' => (∃ Sb mb gb, e = .returned (.pointer (some ⟨Sb, 0, none⟩)) ∧ St w.heap.size w' Sb mb gb 0 [] (fun _ => ⟨0, 0, false⟩) (fun _ => false)) ∧ Below w.heap.size w w' := by
  have hmm := @run_makeMap Tryz.prog
  go_enter Tryz.func42, Tryz.ntmps42
  go_wp2_with fail
  go_ret
  refine ⟨⟨_, w.heap.size, w.heap.size + 1, rfl, ⟨?_, ?_, fun x hx => by simp at hx, ?_, ?_, fun x hx => by simp at hx, fun x hx => by simp at hx⟩⟩, ?_⟩
  · exact heap_alloc_at _ _ (by simp)
  · rw [(bel_alloc (bel_alloc (Below.refl (w.alloc (.map #[] 0)).heap.size (w.alloc (.map #[] 0))) _) _).block _ (by simp)]
    exact heap_alloc_new w _
  · exact ⟨by omega, Nat.le_refl _⟩
  · refine ⟨rfl, .inr ⟨w.heap.size + 1, 1, #[.int .i64 0, .int .i64 0, .int .i64 0, .string ⟨#[]⟩, .string ⟨#[]⟩, .pointer none, .pointer none, .pointer none, .slice none 0 0, .int .i64 20001, .int .i64 0, .bool false, .bool false], rfl, Nat.zero_le _, ?_, Nat.le_refl _, by decide, rfl, rfl⟩⟩
    rw [(bel_alloc (Below.refl ((w.alloc (.map #[] 0)).alloc (.cells #[.int .i64 0, .int .i64 0, .int .i64 0, .string ⟨#[]⟩, .string ⟨#[]⟩, .pointer none, .pointer none, .pointer none, .slice none 0 0, .int .i64 20001, .int .i64 0, .bool false, .bool false] 121)).heap.size _) _).block _ (by simp)]
    exact heap_alloc_at _ _ (by simp)
  · exact bel_alloc (bel_alloc (bel_alloc (Below.refl _ _) _) _) _

theorem Tryz.info61 : (Tryz.prog.info? 61).map (fun i => (i.zero, i.size, i.bytes)) = some (some (.pointer none), 1, 8) := by kernel_rfl
/-- A key's block. -/
def KbAt (w : World) (b : Nat) (xs : List Value) : Prop := w.ownsRow 0 118 8 (.slice (some ⟨b, 0, none⟩) 1 1) 1 xs
theorem KbAt.cell {w : World} {b : Nat} {xs : List Value} (h : KbAt w b xs) (o : Nat) (ho : o < 8) : w.cell? ⟨b, o, none⟩ = xs[o]? := World.ownsRow.cellAt h o (by omega)
theorem kb_set {w : World} {b : Nat} {xs : List Value} (h : KbAt w b xs) (o : Nat) (u : Value) : KbAt (w.setCell ⟨b, o, none⟩ u) b (xs.set o u) := (World.ownsRow.stored h o u).1
theorem KbAt.frozen {w : World} {b : Nat} {xs : List Value} (h : KbAt w b xs) (o : Nat) : w.frozen? ⟨b, o, none⟩ = false := World.ownsRow.frozenAt h o
theorem KbAt.lt {w : World} {b : Nat} {xs : List Value} (h : KbAt w b xs) : b < w.heap.size := (World.ownsRow.lt h b rfl).2
theorem set_bel {B : Nat} {w w' : World} {v : Value} {o : Nat} (h : Below B w w') (hB : B ≤ w'.heap.size) : Below B w (w'.setCell ⟨B, o, none⟩ v) := h.grown (grown_set w' ⟨B, o, none⟩ v) hB (fun k hk => by have := Option.some.inj hk; simp at this; omega)
theorem set8 {B : Nat} {w w' : World} {v0 v1 v2 v3 v4 v5 v6 v7 : Value} (h : Below B w w') (hB : B ≤ w'.heap.size) : Below B w ((((((((w'.setCell ⟨B, 0, none⟩ v0).setCell ⟨B, 1, none⟩ v1).setCell ⟨B, 2, none⟩ v2).setCell ⟨B, 3, none⟩ v3).setCell ⟨B, 4, none⟩ v4).setCell ⟨B, 5, none⟩ v5).setCell ⟨B, 6, none⟩ v6).setCell ⟨B, 7, none⟩ v7) := by
  refine set_bel (set_bel (set_bel (set_bel (set_bel (set_bel (set_bel (set_bel h hB) ?_) ?_) ?_) ?_) ?_) ?_) ?_ <;> simp only [size_set] <;> exact hB
/-- A key whose first kids are there. -/
def keyJ (pt : Nat → Nat) (td : Td) (j : Nat) : Nk := ⟨td.k, td.n, td.m, td.s, ⟨(spell td.lv).toArray⟩, if 0 < j then td.kids[0]?.map (fun c => pt c.toNat) else none, if 1 < j then td.kids[1]?.map (fun c => pt c.toNat) else none, if 2 < j then td.kids[2]?.map (fun c => pt c.toNat) else none⟩
theorem keyJ_all (pt : Nat → Nat) (td : Td) : keyJ pt td td.kids.length = keyOf pt td := by
  have e : ∀ j : Nat, (if j < td.kids.length then td.kids[j]?.map (fun c => pt c.toNat) else none) = td.kids[j]?.map (fun c => pt c.toNat) := fun j => by
    split
    · rfl
    · rw [List.getElem?_eq_none (by omega)]; rfl
  unfold keyJ keyOf
  rw [e 0, e 1, e 2]
theorem keyJ_next (pt : Nat → Nat) (td : Td) (j : Nat) (hj : j < td.kids.length) (h3 : td.kids.length ≤ 3) : (keyJ pt td j).cells.set (5 + j) (ptrV (pt (td.kids[j]).toNat)) = (keyJ pt td (j + 1)).cells := by
  rcases (show j = 0 ∨ j = 1 ∨ j = 2 by omega) with rfl | rfl | rfl
  · have e : td.kids[0]? = some td.kids[0] := List.getElem?_eq_getElem hj
    simp [keyJ, Nk.cells, pv, ptrV, e]
  · have e : td.kids[1]? = some td.kids[1] := List.getElem?_eq_getElem hj
    simp [keyJ, Nk.cells, pv, ptrV, e]
  · have e : td.kids[2]? = some td.kids[2] := List.getElem?_eq_getElem hj
    simp [keyJ, Nk.cells, pv, ptrV, e]

/-- What read answers, where the store has some nodes already. -/
def RdOut (base Sb mb gb clock0 : Nat) (L0 : List (Nk × Nat × Nat)) (Z0 : Nat → Zs) (H0 : Nat → Bool) (ts : List Td) (e : Ending) (w' : World) : Prop :=
  (termB ts = false ∧ e = .returned (.tuple #[.pointer none, .bool false]) ∧ St base w' Sb mb gb clock0 L0 Z0 H0) ∨
    (termB ts = true ∧ ∃ pt clock L Z H, e = .returned (.tuple #[.pointer (some ⟨pt (ts.length - 1), 0, none⟩), .bool true]) ∧ St base w' Sb mb gb clock L Z H ∧ Rd ts pt L Z ts.length ∧ ∀ x ∈ L0, x ∈ L ∧ Z x.2.1 = Z0 x.2.1)
set_option maxRecDepth 20000 in
set_option maxHeartbeats 8000000 in
theorem read_keep (v : Value) (ts : List Td) (w0 w : World) (Sb mb gb clock0 : Nat) (L0 : List (Nk × Nat × Nat)) (Z0 : Nat → Zs) (H0 : Nat → Bool) (hns : TNodesAt w0 v ts) (hsz : ∀ td ∈ ts, TLens td) (hsm : ∀ td ∈ ts, TSmall td) (hsp : ∀ td ∈ ts, (spell td.lv).length ≤ 1000000000) (hb : Below w0.heap.size w0 w) (hs : St w0.heap.size w Sb mb gb clock0 L0 Z0 H0) :
    Calls Tryz.prog 113 #[.pointer (some ⟨Sb, 0, none⟩), .agg #[v]] w fun e w' => RdOut w0.heap.size Sb mb gb clock0 L0 Z0 H0 ts e w' ∧ Below w0.heap.size w0 w' ∧ KeptX (fun k => k = mb) w w' := by
  obtain ⟨ip, hip, hzp, hsp1, hbp⟩ := info_parts Tryz.info61
  have HT := hide (fun W (hb : Below w0.heap.size w0 W) => implTermOk_any v ts W (hns.keep hb) hsz)
  obtain ⟨a, cap, rfl, hl, hm, hc⟩ := hns
  unfold maxLen at hm
  have H : Hid (0 < ts.length → ∃ b off, a = some ⟨b, off, none⟩ ∧ ∀ i (h : i < ts.length), TNodeAt w0 b (off + i * 6) ts[i]) := hc
  have HSM := hide hsm
  have HSP := hide hsp
  have HS0 := hide hs
  have HBW := hide hb
  have HB1 := hide (hb.trans ((bel_alloc (Below.refl w.heap.size w) (.cells #[.slice a ts.length cap] 33)).mono hb.size))
  have HSW := hide (fun W (h : Below w.heap.size w W) => hs.keep h hb.size)
  have HWS := hide hb.size
  clear hb hs hsm hsp hc
  by_cases hB : termB ts = true
  case neg =>
    have hB : termB ts = false := by simpa using hB
    have HBT := hide hB
    rw [hB] at HT
    clear hB
    go_enter Tryz.func113, Tryz.ntmps113
    go_wp2_with (go_at_call 150; refine (HT.out _ HB1.out).mono ?_; rintro e w2 ⟨rfl, hb2⟩)
    have HBY := hide hb2
    have HB2 := hide (bel_trans HB1.out hb2)
    refine bodyPost_ret (v := .tuple #[.pointer none, .bool false]) (by simp [results, Tryz.results113, go_sem]) rfl ⟨.inl ⟨HBT.out, rfl, HSW.out _ (bel_trans (bel_alloc (Below.refl _ _) _) HBY.out)⟩, HB2.out, KeptX.of (bel_trans (bel_alloc (Below.refl _ _) _) HBY.out)⟩
  case pos =>
    have hlen := len_of hB
    have HBT := hide hB
    have HTI := hide (tiled_all hB)
    have HFI := hide (fields_all hB)
    have HSI := hide (sz_le hB)
    have HRS := hide (root_sz hB).1
    rw [hB] at HT
    clear hB
    obtain ⟨W1, hW1⟩ : ∃ W1, W1 = w.alloc (.cells #[.slice a ts.length cap] 33) := ⟨_, rfl⟩
    have x1 : W1.cell? ⟨w.heap.size, 0, none⟩ = some (.slice a ts.length cap) := by rw [hW1]; simp [go_sem]
    have HX1 := hide x1
    have HW1 : Hid (Below w.heap.size w W1) := by show Below _ _ _; rw [hW1]; exact bel_alloc (Below.refl _ _) _
    rw [← hW1] at HB1
    have HWW := hide hW1
    have hwl : w.heap.size < W1.heap.size := lt_cell x1
    go_enter Tryz.func113, Tryz.ntmps113
    go_upto_region 1 with fail
    rw [← HWW.out]
    clear hW1
    go_wp2_with (first
      | (go_at_call 150; refine (HT.out W1 HB1.out).mono ?_; rintro e w2 ⟨rfl, hb2⟩; have x2 := keep_cell hb2 HX1.out; have hwl2 := lt_cell x2; have HB2 := hide (bel_trans HB1.out hb2); have HW2 := hide (bel_trans HW1.out hb2); clear hb2)
      | (at_make
         refine wpList_make_own _ rfl _ _ 62 rfl w0.heap.size 61 ip (.pointer none) 1 Tryz.underlying62 hip hzp hsp1 .i64 .i64 (ts.length : Int) ts.length rfl rfl (by simp) (by rw [hbp]; omega) (by unfold maxLen; omega) HB2.out.size ?_
         intro w3 hown3 hgrow3
         have hb3 : Below w2.heap.size w2 w3 := (Below.refl _ _).grown hgrow3 (Nat.le_refl _) (fun k hk => by cases hk)
         have x3 := keep_cell hb3 x2
         have hwl3 := lt_cell x3
         have HB3 := hide (bel_trans HB2.out hb3)
         have HW3 := hide (bel_trans HW2.out hb3)
         have HO3 := hide hown3
         clear hown3 hgrow3 hb3 x2 hwl2))
    have HRW : Hid (w.heap.size ≤ w2.heap.size) := HW2.out.size
    generalize w2.heap.size = R at *
    go_loopw [6, 22] (fun r i wr => ∃ (k clock : Nat) (L : List (Nk × Nat × Nat)) (Z : Nat → Zs) (H : Nat → Bool) (pt : Nat → Nat), k ≤ ts.length ∧ i = .int .i64 k ∧ r = .slice (some ⟨R, 0, none⟩) k ts.length ∧ Hid (wr.ownsRow w0.heap.size 61 1 (.slice (some ⟨R, 0, none⟩) k ts.length) k ((List.range k).map (fun i => ptrV (pt i)))) ∧ Hid (St w0.heap.size wr Sb mb gb clock L Z H) ∧ Hid (Rd ts pt L Z k) ∧ Hid (∀ x ∈ L0, x ∈ L ∧ Z x.2.1 = Z0 x.2.1) ∧ Hid (Below w0.heap.size w0 wr) ∧ Hid (KeptX (fun k => k = mb ∨ w.heap.size ≤ k) w wr)) (fun _ i _ => ts.length - (intOf i).toNat)
    case atStart => exact ⟨0, clock0, L0, Z0, H0, fun _ => 0, by omega, rfl, rfl, HO3.out, HSW.out _ HW3.out, fun i _ h => by omega, fun x hx => ⟨hx, rfl⟩, HB3.out, KeptX.of HW3.out⟩
    case round =>
      obtain ⟨k, clock, L, Z, HH, pt, hk, rfl, rfl, HO, HST, HRD, HL0, HBL, HKX⟩ := hrel
      clear HO3 HSW HW3 HB3 x3 hwl3 HX1 HW1 HB1 HB2 HW2 hwl HWW x1 HT
      by_cases hlt : k < ts.length
      · have hlt' : (k : Int) < ts.length := by omega
        obtain ⟨b, off, rfl, hc⟩ := H.out (by omega)
        obtain ⟨c1, c2, c3, c4, lv, c5, hlv0, kv, c6, hkv0⟩ := hc k hlt
        have HKV := hide (fun W (h : Below w0.heap.size w0 W) => hkv0.keep h)
        have HLV := hide (fun W (h : Below w0.heap.size w0 W) => hlv0.keep h)
        have c1 := keep_cell HBL.out c1
        have c2 := keep_cell HBL.out c2
        have c3 := keep_cell HBL.out c3
        have c4 := keep_cell HBL.out c4
        have c5 := keep_cell HBL.out c5
        have c6 := keep_cell HBL.out c6
        clear hc H
        obtain ⟨ka, kc, rfl, hk1, hk2, hk3⟩ := hkv0
        obtain ⟨la, lc, rfl, _, _, _⟩ := hlv0
        have HK3 := hide hk3
        clear hk3
        have HTK := hide (HTI.out k hlt)
        have HFK := hide (HFI.out k hlt)
        have HSK := hide (HSI.out k hlt)
        have HSMK := hide (HSM.out ts[k] (List.getElem_mem hlt))
        have HSPK := hide (HSP.out ts[k] (List.getElem_mem hlt))
        have HKEY := hide (HRD.out.key hlt (HTI.out k hlt))
        have HNXT := hide (fun (W : World) (clock' : Nat) (L' : List (Nk × Nat × Nat)) (Z' : Nat → Zs) (H' : Nat → Bool) (nb : Nat) (h1 : St w0.heap.size W Sb mb gb clock' L' Z' H') (h2 : ∀ x ∈ L, x ∈ L' ∧ Z' x.2.1 = Z x.2.1) (h3 : ∃ c, (keyOf pt ts[k], nb, c) ∈ L') => Rd.next h1 (HRD.out.more h2) hlt HTI.out h3)
        have HZK : Hid ((zmk ts[k].k ts[k].n (ts[k].kids.map (zI (Zt ts)))).sz ≤ 20000) := by
          show _ ≤ _
          rw [← HTK.out.eqz]
          have h := HSK.out
          unfold szI at h
          omega
        have HKIN := hide HTK.out.kin
        have hkl3 : ts[k].kids.length ≤ 3 := by have := tkids_le ts[k].k; have := HTK.out.arity; omega
        have HNK := hide (num_of HFK.out)
        have HLK := hide (fun l hl => lvl_kinds (lev_of HFK.out l hl))
        have HLB := hide (lev_of HFK.out)
        clear HTK HFK HSK HRD HTI HFI HSI HSM HSP
        generalize ts[k] = td at *
        obtain ⟨W1, hW1⟩ : ∃ W1, W1 = wr.alloc (.cells #[.int .i64 td.k, .int .i64 td.n, .int .i64 td.m, .string td.s, .slice la td.lv.length lc, .slice ka td.kids.length kc] 166) := ⟨_, rfl⟩
        have HW1 := hide (show Below wr.heap.size wr W1 by rw [hW1]; exact bel_alloc (Below.refl _ _) _)
        have n0 : W1.cell? ⟨wr.heap.size, 0, none⟩ = some (.int .i64 td.k) := by rw [hW1]; simp [go_sem]
        have n1 : W1.cell? ⟨wr.heap.size, 1, none⟩ = some (.int .i64 td.n) := by rw [hW1]; simp [go_sem]
        have n2 : W1.cell? ⟨wr.heap.size, 2, none⟩ = some (.int .i64 td.m) := by rw [hW1]; simp [go_sem]
        have n3 : W1.cell? ⟨wr.heap.size, 3, none⟩ = some (.string td.s) := by rw [hW1]; simp [go_sem]
        have n4 : W1.cell? ⟨wr.heap.size, 4, none⟩ = some (.slice la td.lv.length lc) := by rw [hW1]; simp [go_sem]
        have n5 : W1.cell? ⟨wr.heap.size, 5, none⟩ = some (.slice ka td.kids.length kc) := by rw [hW1]; simp [go_sem]
        have hl1 := lt_cell n0
        have HBL1 := hide (bel_trans HBL.out HW1.out)
        go_upto_region 7 with fail
        rw [← hW1]
        clear hW1
        have HNX := hide (fun (wx : World) (hx : Below W1.heap.size W1 wx) => And.intro (keep_cell hx n0) (And.intro (keep_cell hx n1) (And.intro (keep_cell hx n2) (And.intro (keep_cell hx n3) (keep_cell hx n4)))))
        have HN5 := hide (fun (wx : World) (hx : Below W1.heap.size W1 wx) => keep_cell hx n5)
        have HN4 := hide (fun (wx : World) (hx : Below W1.heap.size W1 wx) => keep_cell hx n4)
        have HSPL := hide (fun W (h : Below w0.heap.size w0 W) => spelling_any (.slice la td.lv.length lc) td.lv W (HLV.out W h) HLK.out HSPK.out)
        have hS0 : (fun w' : World => Below W1.heap.size W1 w') W1.drew := (Below.refl _ _).drew
        clear n0 n1 n2 n3 n4 n5 c1 c2 c3 c4 c5 c6
        go_wp2_with fail
        refine anyE_region (L := 13) (S := fun w' : World => Below W1.heap.size W1 w') (by kernel_rfl) ?_
        refine anyE_take 0 (v := ?v2) rfl (by kernel_rfl) (by kernel_rfl) (by kernel_rfl) (by kernel_rfl) (fun _ _ _ h => h) (by rfl) ?hy2 hS0 ?rest2
        case hy2 =>
          intro wx hx
          obtain ⟨m0, m1, m2, m3, m4⟩ := HNX.out wx hx
          go_simp
          try rfl
        case rest2 =>
        intro K hK
        go_simp
        refine hK.out _ ?_
        clear hK K
        refine anyE_take 1 (v := ?v3) rfl (by kernel_rfl) (by kernel_rfl) (by kernel_rfl) (by kernel_rfl) (fun _ _ _ h => h) (by rfl) ?hy3 hS0 ?rest3
        case hy3 =>
          intro wx hx
          obtain ⟨m0, m1, m2, m3, m4⟩ := HNX.out wx hx
          go_simp
          try rfl
        case rest3 =>
        intro K hK
        go_simp
        refine hK.out _ ?_
        clear hK K
        refine anyE_take 2 (v := ?v4) rfl (by kernel_rfl) (by kernel_rfl) (by kernel_rfl) (by kernel_rfl) (fun _ _ _ h => h) (by rfl) ?hy4 hS0 ?rest4
        case hy4 =>
          intro wx hx
          obtain ⟨m0, m1, m2, m3, m4⟩ := HNX.out wx hx
          go_simp
          try rfl
        case rest4 =>
        intro K hK
        go_simp
        refine hK.out _ ?_
        clear hK K
        refine anyE_take 3 (v := ?v5) rfl (by kernel_rfl) (by kernel_rfl) (by kernel_rfl) (by kernel_rfl) (fun _ _ _ h => h) (by rfl) ?hy5 hS0 ?rest5
        case hy5 =>
          intro wx hx
          obtain ⟨m0, m1, m2, m3, m4⟩ := HNX.out wx hx
          go_simp
          try rfl
        case rest5 =>
        intro K hK
        go_simp
        refine hK.out _ ?_
        clear hK K
        refine anyE_take 4 (v := ?v6) rfl (by kernel_rfl) (by kernel_rfl) (by kernel_rfl) (by kernel_rfl) (fun _ _ _ h => h) (by rfl) ?hy6 hS0 ?rest6
        case hy6 =>
          intro wx hx
          obtain ⟨m0, m1, m2, m3, m4⟩ := HNX.out wx hx
          go_simp
          try rfl
        case rest6 =>
        intro K hK
        go_simp
        refine hK.out _ ?_
        clear hK K
        refine anyE_take 5 (v := ?v7) rfl (by kernel_rfl) (by kernel_rfl) (by kernel_rfl) (by kernel_rfl) (fun _ _ _ h => h) (by rfl) ?hy7 hS0 ?rest7
        case hy7 =>
          intro wx hx
          obtain ⟨m0, m1, m2, m3, m4⟩ := HNX.out wx hx
          go_simp
          try rfl
        case rest7 =>
        intro K hK
        go_simp
        refine hK.out _ ?_
        clear hK K
        refine anyE_take 6 (v := ?v8) rfl (by kernel_rfl) (by kernel_rfl) (by kernel_rfl) (by kernel_rfl) (fun _ _ _ h => h) (by rfl) ?hy8 hS0 ?rest8
        case hy8 =>
          intro wx hx
          obtain ⟨m0, m1, m2, m3, m4⟩ := HNX.out wx hx
          go_simp
          try rfl
        case rest8 =>
        intro K hK
        go_simp
        refine hK.out _ ?_
        clear hK K
        refine anyE_take 7 (v := ?v9) rfl (by kernel_rfl) (by kernel_rfl) (by kernel_rfl) (by kernel_rfl) (fun _ _ _ h => h) (by rfl) ?hy9 hS0 ?rest9
        case hy9 =>
          intro wx hx
          obtain ⟨m0, m1, m2, m3, m4⟩ := HNX.out wx hx
          go_simp
          try rfl
        case rest9 =>
        intro K hK
        go_simp
        refine hK.out _ ?_
        clear hK K
        refine anyE_take 8 (v := ?v10) rfl (by kernel_rfl) (by kernel_rfl) (by kernel_rfl) (by kernel_rfl) (fun _ _ _ h => h) (by rfl) ?hy10 hS0 ?rest10
        case hy10 =>
          intro wx hx
          obtain ⟨m0, m1, m2, m3, m4⟩ := HNX.out wx hx
          go_simp
          try rfl
        case rest10 =>
        intro K hK
        go_simp
        refine hK.out _ ?_
        clear hK K
        refine anyE_take 9 (v := ?v11) rfl (by kernel_rfl) (by kernel_rfl) (by kernel_rfl) (by kernel_rfl) (fun _ _ _ h => h) (by rfl) ?hy11 hS0 ?rest11
        case hy11 =>
          intro wx hx
          obtain ⟨m0, m1, m2, m3, m4⟩ := HNX.out wx hx
          go_simp
          try rfl
        case rest11 =>
        intro K hK
        go_simp
        refine hK.out _ ?_
        clear hK K
        refine anyE_two 10 12 (by kernel_rfl) rfl rfl (fun K hK => ?_) (fun K hK => ?_)
        · go_simp
          refine (HSPL.out W1.drew HBL1.out.drew).mono ?_
          rintro e w2 ⟨rfl, hb2⟩
          have hb2' : Below W1.heap.size W1 w2 := (Below.refl W1.heap.size W1).drew.trans hb2
          refine hK.out _ _ (fun _ => hb2') ?_
          clear hK K hb2 hS0
          refine anyE_take 11 (v := ?v12) rfl (by kernel_rfl) (by kernel_rfl) (by kernel_rfl) (by kernel_rfl) (fun _ _ _ h => h) (by rfl) ?hy12 hb2' ?rest12
          case hy12 =>
            intro wx hx
            obtain ⟨m0, m1, m2, m3, m4⟩ := HNX.out wx hx
            go_simp
            try rfl
          case rest12 =>
          intro K hK
          go_simp
          refine hK.out _ ?_
          clear hK K
          refine anyE_one 12 (by kernel_rfl) rfl (fun K hK => ?_)
          go_simp
          have hb3 : Below W1.heap.size W1 (w2.alloc (.cells #[.int .i64 0, .int .i64 0, .int .i64 0, .string ⟨#[]⟩, .string ⟨#[]⟩, .pointer none, .pointer none, .pointer none] 118)) := bel_trans hb2' (bel_alloc (Below.refl _ _) _)
          refine hK.out _ _ (fun _ => hb3) ?_
          clear hK K
          refine anyE_one 13 (by kernel_rfl) rfl (fun K hK => ?_)
          go_simp
          refine hK.out _ _ (fun h => absurd rfl h) ?_
          clear hK K
          refine anyE_done (by kernel_rfl) ?_ _
          obtain ⟨X, hX⟩ : ∃ X, X = w2.alloc (.cells #[.int .i64 td.k, .int .i64 td.n, .int .i64 td.m, .string td.s, .string ⟨(spell td.lv).toArray⟩, .pointer none, .pointer none, .pointer none] 118) := ⟨_, rfl⟩
          have HKB : Hid (KbAt X w2.heap.size (keyJ pt td 0).cells) := by
            show KbAt _ _ _
            rw [hX]
            exact ⟨rfl, .inr ⟨w2.heap.size, 1, _, rfl, Nat.zero_le _, heap_alloc_new w2 _, Nat.le_refl _, by decide, rfl, rfl⟩⟩
          have HBX : Hid (Below W1.heap.size W1 X) := by
            show Below _ _ _
            rw [hX]
            exact bel_trans hb2' (bel_alloc (Below.refl _ _) _)
          rw [← hX]
          have HKG := hide hb2'.size
          clear hb3 hb2' hX
          generalize w2.heap.size = Kb at *
          clear w2
          obtain ⟨wo, rfl⟩ : ∃ wo, wo = wr := ⟨wr, rfl⟩
          have hn5 := HN5.out X HBX.out
          have hKl := HKB.out.lt
          have hl2 := lt_cell hn5
          go_wp2_with fail
          go_loopw [41] (fun i wi => ∃ (j : Nat), j ≤ td.kids.length ∧ i = .int .i64 j ∧ Hid (KbAt wi Kb (keyJ pt td j).cells) ∧ Hid (Below W1.heap.size W1 wi)) (fun i _ => td.kids.length - (intOf i).toNat)
          case atStart => exact ⟨0, by omega, rfl, HKB, HBX⟩
          case round =>
            clear HKB HBX hn5 hKl hl2
            obtain ⟨j, hj, rfl, HKJ, HBJ⟩ := hrel
            have HB0J := hide (bel_trans HBL1.out HBJ.out)
            have HBWJ := hide (bel_trans HW1.out HBJ.out)
            have hKl := HKJ.out.lt
            by_cases hjl : j < td.kids.length
            · have hjl' : (j : Int) < td.kids.length := by omega
              obtain ⟨kb, ko, rfl, hkc⟩ := HK3.out (by omega)
              have d1 := keep_cell HB0J.out (hkc j hjl)
              obtain ⟨q0, q1⟩ := HKIN.out td.kids[j] (List.getElem_mem hjl)
              have HNJ := hide (keyJ_next pt td j hjl hkl3)
              generalize td.kids[j] = c at *
              obtain ⟨cn, rfl⟩ : ∃ cn : Nat, c = cn := ⟨c.toNat, by omega⟩
              have hcn : cn < k := by omega
              have d2 : wr.cell? ⟨R, cn, none⟩ = some (.pointer (some ⟨pt cn, 0, none⟩)) := by
                rw [(row_keep HBWJ.out HO.out).cellAt cn (by omega)]
                simp [hcn, ptrV]
              have hRl := lt_cell d2
              obtain ⟨ov, d3⟩ : ∃ ov, wr.cell? ⟨Kb, 5 + j, none⟩ = some ov := by
                rw [HKJ.out.cell (5 + j) (by omega)]
                exact ⟨_, List.getElem?_eq_getElem (by show 5 + j < 8; omega)⟩
              have f3 := HKJ.out.frozen (5 + j)
              have HNS := hide (kb_set HKJ.out (5 + j) (ptrV (pt (cn : Int).toNat)))
              rw [HNJ.out] at HNS
              have HBS := hide (HBJ.out.grown (grown_set wr ⟨Kb, 5 + j, none⟩ (ptrV (pt (cn : Int).toNat))) HBJ.out.size (fun k hk => by have := Option.some.inj hk; have := HKG.out; simp at *; omega))
              clear HNJ hkc
              have hj3 : j < 3 := by omega
              go_wp2_with fail
              go_roundw
              case rel => exact ⟨j + 1, hjl, by go_num, HNS.out, HBS.out⟩
              case measure => simp [intOf]; omega
            · have hjl' : ¬ (j : Int) < td.kids.length := by omega
              have e : j = td.kids.length := by omega
              subst e
              rw [keyJ_all] at HKJ
              have HND := hide (node_any w0.heap.size Sb mb gb clock L Z HH (keyOf pt td) (.slice la td.lv.length lc) td.lv wr (HST.out.keep HBWJ.out HBL.out.size) HB0J.out.size HKEY.out.1 (fun w' h => HLV.out w' (HB0J.out.trans h)) ⟨rfl, HLB.out⟩ HSMK.out.1 (fun l hl => (HSMK.out.2.1 l hl).1) HNK.out (by rw [HKEY.out.2]; exact HZK.out))
              have x8 := HN4.out wr HBJ.out
              have hl4 := lt_cell x8
              have hRm : R ≠ mb := fun e => by
                obtain ⟨_, cs, h1⟩ := row_heap HO.out
                rw [e, HST.out.mp] at h1
                cases h1
              have HOJ := hide (row_keep HBWJ.out HO.out)
              have HNX' := HNXT
              generalize keyOf pt td = q at *
              have x0 : wr.cell? ⟨Kb, 0, none⟩ = some (.int .i64 q.k) := by rw [HKJ.out.cell 0 (by omega)]; rfl
              have x1 : wr.cell? ⟨Kb, 1, none⟩ = some (.int .i64 q.n) := by rw [HKJ.out.cell 1 (by omega)]; rfl
              have x2 : wr.cell? ⟨Kb, 2, none⟩ = some (.int .i64 q.m) := by rw [HKJ.out.cell 2 (by omega)]; rfl
              have x3 : wr.cell? ⟨Kb, 3, none⟩ = some (.string q.s) := by rw [HKJ.out.cell 3 (by omega)]; rfl
              have x4 : wr.cell? ⟨Kb, 4, none⟩ = some (.string q.sp) := by rw [HKJ.out.cell 4 (by omega)]; rfl
              have x5 : wr.cell? ⟨Kb, 5, none⟩ = some (pv q.p0) := by rw [HKJ.out.cell 5 (by omega)]; rfl
              have x6 : wr.cell? ⟨Kb, 6, none⟩ = some (pv q.p1) := by rw [HKJ.out.cell 6 (by omega)]; rfl
              have x7 : wr.cell? ⟨Kb, 7, none⟩ = some (pv q.p2) := by rw [HKJ.out.cell 7 (by omega)]; rfl
              clear HKJ HNX HN5 HN4 HSPL HKEY HZK HNK HLK HLB HSPK HSMK HKIN HKV hjl hj
              go_wp2_with fail
              refine HND.out.mono ?_
              rintro e w4 ⟨nb, clock', L', Z', H', rfl, hs4, hm4, hx4, hg4⟩
              have HO4 := hide (HOJ.out.kept hg4 (.inr (fun e => hRm (Option.some.inj e))))
              have HB4 : Hid (Below w0.heap.size w0 w4) := HB0J.out.grown hg4 HB0J.out.size (fun k hk => by have := Option.some.inj hk; have := HST.out.lows.2; omega)
              have HS4 := hide hs4
              have HRN := hide (HNX'.out w4 clock' L' Z' H' nb hs4 (fun x hx => ⟨(hx4 x hx).1, (hx4 x hx).2.1⟩) hm4)
              have HLN : Hid (∀ x ∈ L0, x ∈ L' ∧ Z' x.2.1 = Z0 x.2.1) := fun x hx => ⟨(hx4 x (HL0.out x hx).1).1, (hx4 x (HL0.out x hx).1).2.1.trans (HL0.out x hx).2⟩
              have HG4 := hide hg4
              clear hs4 hm4 hx4 hg4 x0 x1 x2 x3 x4 x5 x6 x7 x8 HOJ HND
              go_wp2_with (at_builtin; refine wpList_append_fits _ rfl _ _ 62 rfl w0.heap.size 61 ip 1 Tryz.underlying62 hip hsp1 R k ts.length ((List.range k).map (fun i => ptrV (pt i))) rfl (HO4.out.alloc _) ⟨w4.heap.size, 0, none⟩ 1 1 [.pointer (some ⟨nb, 0, none⟩)] rfl rfl ?c1 ?c2 ?c3 ?_)
              case c1 => exact cell_one_new _ _ _
              case c2 => intro u hu; simp at hu; subst hu; rfl
              case c3 => omega
              intro w5 hown5 hg5
              have HS5 := hide ((HS4.out.keep (bel_alloc (Below.refl _ _) _) HB4.out.size).row (row_heap (HO4.out.alloc (.cells #[.pointer (some ⟨nb, 0, none⟩)] 61))).2.choose_spec hg5 (row_heap HO4.out).1 (Nat.le_trans HB4.out.size (by simp)))
              have HB5 : Hid (Below w0.heap.size w0 w5) := (bel_trans HB4.out (bel_alloc (Below.refl _ _) (.cells #[.pointer (some ⟨nb, 0, none⟩)] 61))).grown hg5 (Nat.le_trans HB4.out.size (by simp)) (fun k hk => by have := Option.some.inj hk; have := (row_heap HO4.out).1; omega)
              have HKX5 : Hid (KeptX (fun k => k = mb ∨ w.heap.size ≤ k) w w5) := (((HKX.out.trans (KeptX.of HBWJ.out)).trans (KeptX.grown HG4.out (fun x hx => .inl (Option.some.inj hx).symm))).trans (KeptX.of (bel_alloc (Below.refl _ _) (.cells #[.pointer (some ⟨nb, 0, none⟩)] 61)))).trans (KeptX.grown hg5 (fun x hx => .inr (by have := Option.some.inj hx; have := HRW.out; omega)))
              have HO5 : Hid (w5.ownsRow w0.heap.size 61 1 (.slice (some ⟨R, 0, none⟩) (k + 1) ts.length) (k + 1) ((List.range (k + 1)).map (fun i => ptrV (ptPut pt k nb i)))) := by
                show World.ownsRow _ _ _ _ _ _ _
                rw [show (List.range (k + 1)).map (fun i => ptrV (ptPut pt k nb i)) = (List.range k).map (fun i => ptrV (pt i)) ++ [.pointer (some ⟨nb, 0, none⟩)] from by
                  rw [List.range_succ, List.map_append]
                  congr 1
                  · apply List.map_congr_left
                    intro i hi
                    rw [ptPut_lt (List.mem_range.1 hi)]
                  · simp [ptPut_at, ptrV]]
                exact hown5
              clear hown5 hg5
              go_wp2_with fail
              go_roundw
              case rel => exact ⟨k + 1, clock', L', Z', H', ptPut pt k nb, hlt, by go_num, rfl, HO5.out, HS5.out, HRN.out, HLN.out, HB5.out, HKX5.out⟩
              case measure => simp [intOf]; omega
        · go_simp
          obtain ⟨V, hV⟩ : ∃ V, V = (W1.alloc (.cells #[.int .i64 0, .int .i64 0, .int .i64 0, .string ⟨#[]⟩, .string ⟨#[]⟩, .pointer none, .pointer none, .pointer none] 118)).drew := ⟨_, rfl⟩
          have hbV : Below W1.heap.size W1 V := by
            rw [hV]
            exact (bel_alloc (Below.refl W1.heap.size W1) _).drew
          have hKV : KbAt V W1.heap.size [.int .i64 0, .int .i64 0, .int .i64 0, .string ⟨#[]⟩, .string ⟨#[]⟩, .pointer none, .pointer none, .pointer none] := by
            rw [hV]
            exact ⟨rfl, .inr ⟨W1.heap.size, 1, _, rfl, Nat.zero_le _, heap_alloc_new W1 _, Nat.le_refl _, by decide, rfl, rfl⟩⟩
          rw [← hV]
          refine hK.out _ _ (fun _ => hbV) ?_
          clear hK K hS0 hV
          refine anyE_one 10 (by kernel_rfl) rfl (fun K hK => ?_)
          go_simp
          refine (HSPL.out V (bel_trans HBL1.out hbV)).mono ?_
          rintro e w2 ⟨rfl, hb2⟩
          have hb2' := bel_trans hbV hb2
          have hK2 : KbAt w2 W1.heap.size [.int .i64 0, .int .i64 0, .int .i64 0, .string ⟨#[]⟩, .string ⟨#[]⟩, .pointer none, .pointer none, .pointer none] := row_keep hb2 hKV
          refine hK.out _ _ (fun _ => hb2') ?_
          clear hK K hb2 hKV hbV
          refine anyE_take 11 (v := ?v1) rfl (by kernel_rfl) (by kernel_rfl) (by kernel_rfl) (by kernel_rfl) (fun _ _ _ h => h) (by rfl) ?hy1 hb2' ?rest1
          case hy1 =>
            intro wx hx
            obtain ⟨m0, m1, m2, m3, m4⟩ := HNX.out wx hx
            go_simp
            try rfl
          case rest1 =>
          intro K hK
          go_simp
          refine hK.out _ ?_
          clear hK K
          have hkl2 := hK2.lt
          have y0 : w2.cell? ⟨W1.heap.size, 0, none⟩ = some (.int .i64 0) := by rw [hK2.cell 0 (by omega)]; rfl
          have z0 := hK2.frozen 0
          have y1 : w2.cell? ⟨W1.heap.size, 1, none⟩ = some (.int .i64 0) := by rw [hK2.cell 1 (by omega)]; rfl
          have z1 := hK2.frozen 1
          have y2 : w2.cell? ⟨W1.heap.size, 2, none⟩ = some (.int .i64 0) := by rw [hK2.cell 2 (by omega)]; rfl
          have z2 := hK2.frozen 2
          have y3 : w2.cell? ⟨W1.heap.size, 3, none⟩ = some (.string ⟨#[]⟩) := by rw [hK2.cell 3 (by omega)]; rfl
          have z3 := hK2.frozen 3
          have y4 : w2.cell? ⟨W1.heap.size, 4, none⟩ = some (.string ⟨#[]⟩) := by rw [hK2.cell 4 (by omega)]; rfl
          have z4 := hK2.frozen 4
          have y5 : w2.cell? ⟨W1.heap.size, 5, none⟩ = some (.pointer none) := by rw [hK2.cell 5 (by omega)]; rfl
          have z5 := hK2.frozen 5
          have y6 : w2.cell? ⟨W1.heap.size, 6, none⟩ = some (.pointer none) := by rw [hK2.cell 6 (by omega)]; rfl
          have z6 := hK2.frozen 6
          have y7 : w2.cell? ⟨W1.heap.size, 7, none⟩ = some (.pointer none) := by rw [hK2.cell 7 (by omega)]; rfl
          have z7 := hK2.frozen 7
          refine anyE_one 13 (by kernel_rfl) rfl (fun K hK => ?_)
          go_simp
          refine hK.out _ _ (fun h => absurd rfl h) ?_
          clear hK K
          refine anyE_done (by kernel_rfl) ?_ _
          obtain ⟨X, hX⟩ : ∃ X, X = ((((((((w2.setCell ⟨W1.heap.size, 0, none⟩ (.int .i64 td.k)).setCell ⟨W1.heap.size, 1, none⟩ (.int .i64 td.n)).setCell ⟨W1.heap.size, 2, none⟩ (.int .i64 td.m)).setCell ⟨W1.heap.size, 3, none⟩ (.string td.s)).setCell ⟨W1.heap.size, 4, none⟩ (.string ⟨(spell td.lv).toArray⟩)).setCell ⟨W1.heap.size, 5, none⟩ (.pointer none)).setCell ⟨W1.heap.size, 6, none⟩ (.pointer none)).setCell ⟨W1.heap.size, 7, none⟩ (.pointer none)) := ⟨_, rfl⟩
          have HKB : Hid (KbAt X W1.heap.size (keyJ pt td 0).cells) := by
            show KbAt _ _ _
            rw [hX]
            exact (kb_set (kb_set (kb_set (kb_set (kb_set (kb_set (kb_set (kb_set hK2 0 (.int .i64 td.k)) 1 (.int .i64 td.n)) 2 (.int .i64 td.m)) 3 (.string td.s)) 4 (.string ⟨(spell td.lv).toArray⟩)) 5 (.pointer none)) 6 (.pointer none)) 7 (.pointer none))
          have HBX : Hid (Below W1.heap.size W1 X) := by
            show Below _ _ _
            rw [hX]
            exact set8 hb2' hb2'.size
          rw [← hX]
          clear hb2' hX hK2 y0 y1 y2 y3 y4 y5 y6 y7 z0 z1 z2 z3 z4 z5 z6 z7 hkl2
          obtain ⟨Kb, hKb⟩ : ∃ Kb, Kb = W1.heap.size := ⟨_, rfl⟩
          rw [← hKb]
          rw [← hKb] at HKB
          have HKG : Hid (W1.heap.size ≤ Kb) := by show _ ≤ _; omega
          clear hKb
          obtain ⟨wo, rfl⟩ : ∃ wo, wo = wr := ⟨wr, rfl⟩
          have hn5 := HN5.out X HBX.out
          have hKl := HKB.out.lt
          have hl2 := lt_cell hn5
          go_wp2_with fail
          go_loopw [41] (fun i wi => ∃ (j : Nat), j ≤ td.kids.length ∧ i = .int .i64 j ∧ Hid (KbAt wi Kb (keyJ pt td j).cells) ∧ Hid (Below W1.heap.size W1 wi)) (fun i _ => td.kids.length - (intOf i).toNat)
          case atStart => exact ⟨0, by omega, rfl, HKB, HBX⟩
          case round =>
            clear HKB HBX hn5 hKl hl2
            obtain ⟨j, hj, rfl, HKJ, HBJ⟩ := hrel
            have HB0J := hide (bel_trans HBL1.out HBJ.out)
            have HBWJ := hide (bel_trans HW1.out HBJ.out)
            have hKl := HKJ.out.lt
            by_cases hjl : j < td.kids.length
            · have hjl' : (j : Int) < td.kids.length := by omega
              obtain ⟨kb, ko, rfl, hkc⟩ := HK3.out (by omega)
              have d1 := keep_cell HB0J.out (hkc j hjl)
              obtain ⟨q0, q1⟩ := HKIN.out td.kids[j] (List.getElem_mem hjl)
              have HNJ := hide (keyJ_next pt td j hjl hkl3)
              generalize td.kids[j] = c at *
              obtain ⟨cn, rfl⟩ : ∃ cn : Nat, c = cn := ⟨c.toNat, by omega⟩
              have hcn : cn < k := by omega
              have d2 : wr.cell? ⟨R, cn, none⟩ = some (.pointer (some ⟨pt cn, 0, none⟩)) := by
                rw [(row_keep HBWJ.out HO.out).cellAt cn (by omega)]
                simp [hcn, ptrV]
              have hRl := lt_cell d2
              obtain ⟨ov, d3⟩ : ∃ ov, wr.cell? ⟨Kb, 5 + j, none⟩ = some ov := by
                rw [HKJ.out.cell (5 + j) (by omega)]
                exact ⟨_, List.getElem?_eq_getElem (by show 5 + j < 8; omega)⟩
              have f3 := HKJ.out.frozen (5 + j)
              have HNS := hide (kb_set HKJ.out (5 + j) (ptrV (pt (cn : Int).toNat)))
              rw [HNJ.out] at HNS
              have HBS := hide (HBJ.out.grown (grown_set wr ⟨Kb, 5 + j, none⟩ (ptrV (pt (cn : Int).toNat))) HBJ.out.size (fun k hk => by have := Option.some.inj hk; have := HKG.out; simp at *; omega))
              clear HNJ hkc
              have hj3 : j < 3 := by omega
              go_wp2_with fail
              go_roundw
              case rel => exact ⟨j + 1, hjl, by go_num, HNS.out, HBS.out⟩
              case measure => simp [intOf]; omega
            · have hjl' : ¬ (j : Int) < td.kids.length := by omega
              have e : j = td.kids.length := by omega
              subst e
              rw [keyJ_all] at HKJ
              have HND := hide (node_any w0.heap.size Sb mb gb clock L Z HH (keyOf pt td) (.slice la td.lv.length lc) td.lv wr (HST.out.keep HBWJ.out HBL.out.size) HB0J.out.size HKEY.out.1 (fun w' h => HLV.out w' (HB0J.out.trans h)) ⟨rfl, HLB.out⟩ HSMK.out.1 (fun l hl => (HSMK.out.2.1 l hl).1) HNK.out (by rw [HKEY.out.2]; exact HZK.out))
              have x8 := HN4.out wr HBJ.out
              have hl4 := lt_cell x8
              have hRm : R ≠ mb := fun e => by
                obtain ⟨_, cs, h1⟩ := row_heap HO.out
                rw [e, HST.out.mp] at h1
                cases h1
              have HOJ := hide (row_keep HBWJ.out HO.out)
              have HNX' := HNXT
              generalize keyOf pt td = q at *
              have x0 : wr.cell? ⟨Kb, 0, none⟩ = some (.int .i64 q.k) := by rw [HKJ.out.cell 0 (by omega)]; rfl
              have x1 : wr.cell? ⟨Kb, 1, none⟩ = some (.int .i64 q.n) := by rw [HKJ.out.cell 1 (by omega)]; rfl
              have x2 : wr.cell? ⟨Kb, 2, none⟩ = some (.int .i64 q.m) := by rw [HKJ.out.cell 2 (by omega)]; rfl
              have x3 : wr.cell? ⟨Kb, 3, none⟩ = some (.string q.s) := by rw [HKJ.out.cell 3 (by omega)]; rfl
              have x4 : wr.cell? ⟨Kb, 4, none⟩ = some (.string q.sp) := by rw [HKJ.out.cell 4 (by omega)]; rfl
              have x5 : wr.cell? ⟨Kb, 5, none⟩ = some (pv q.p0) := by rw [HKJ.out.cell 5 (by omega)]; rfl
              have x6 : wr.cell? ⟨Kb, 6, none⟩ = some (pv q.p1) := by rw [HKJ.out.cell 6 (by omega)]; rfl
              have x7 : wr.cell? ⟨Kb, 7, none⟩ = some (pv q.p2) := by rw [HKJ.out.cell 7 (by omega)]; rfl
              clear HKJ HNX HN5 HN4 HSPL HKEY HZK HNK HLK HLB HSPK HSMK HKIN HKV hjl hj
              go_wp2_with fail
              refine HND.out.mono ?_
              rintro e w4 ⟨nb, clock', L', Z', H', rfl, hs4, hm4, hx4, hg4⟩
              have HO4 := hide (HOJ.out.kept hg4 (.inr (fun e => hRm (Option.some.inj e))))
              have HB4 : Hid (Below w0.heap.size w0 w4) := HB0J.out.grown hg4 HB0J.out.size (fun k hk => by have := Option.some.inj hk; have := HST.out.lows.2; omega)
              have HS4 := hide hs4
              have HRN := hide (HNX'.out w4 clock' L' Z' H' nb hs4 (fun x hx => ⟨(hx4 x hx).1, (hx4 x hx).2.1⟩) hm4)
              have HLN : Hid (∀ x ∈ L0, x ∈ L' ∧ Z' x.2.1 = Z0 x.2.1) := fun x hx => ⟨(hx4 x (HL0.out x hx).1).1, (hx4 x (HL0.out x hx).1).2.1.trans (HL0.out x hx).2⟩
              have HG4 := hide hg4
              clear hs4 hm4 hx4 hg4 x0 x1 x2 x3 x4 x5 x6 x7 x8 HOJ HND
              go_wp2_with (at_builtin; refine wpList_append_fits _ rfl _ _ 62 rfl w0.heap.size 61 ip 1 Tryz.underlying62 hip hsp1 R k ts.length ((List.range k).map (fun i => ptrV (pt i))) rfl (HO4.out.alloc _) ⟨w4.heap.size, 0, none⟩ 1 1 [.pointer (some ⟨nb, 0, none⟩)] rfl rfl ?c1 ?c2 ?c3 ?_)
              case c1 => exact cell_one_new _ _ _
              case c2 => intro u hu; simp at hu; subst hu; rfl
              case c3 => omega
              intro w5 hown5 hg5
              have HS5 := hide ((HS4.out.keep (bel_alloc (Below.refl _ _) _) HB4.out.size).row (row_heap (HO4.out.alloc (.cells #[.pointer (some ⟨nb, 0, none⟩)] 61))).2.choose_spec hg5 (row_heap HO4.out).1 (Nat.le_trans HB4.out.size (by simp)))
              have HB5 : Hid (Below w0.heap.size w0 w5) := (bel_trans HB4.out (bel_alloc (Below.refl _ _) (.cells #[.pointer (some ⟨nb, 0, none⟩)] 61))).grown hg5 (Nat.le_trans HB4.out.size (by simp)) (fun k hk => by have := Option.some.inj hk; have := (row_heap HO4.out).1; omega)
              have HKX5 : Hid (KeptX (fun k => k = mb ∨ w.heap.size ≤ k) w w5) := (((HKX.out.trans (KeptX.of HBWJ.out)).trans (KeptX.grown HG4.out (fun x hx => .inl (Option.some.inj hx).symm))).trans (KeptX.of (bel_alloc (Below.refl _ _) (.cells #[.pointer (some ⟨nb, 0, none⟩)] 61)))).trans (KeptX.grown hg5 (fun x hx => .inr (by have := Option.some.inj hx; have := HRW.out; omega)))
              have HO5 : Hid (w5.ownsRow w0.heap.size 61 1 (.slice (some ⟨R, 0, none⟩) (k + 1) ts.length) (k + 1) ((List.range (k + 1)).map (fun i => ptrV (ptPut pt k nb i)))) := by
                show World.ownsRow _ _ _ _ _ _ _
                rw [show (List.range (k + 1)).map (fun i => ptrV (ptPut pt k nb i)) = (List.range k).map (fun i => ptrV (pt i)) ++ [.pointer (some ⟨nb, 0, none⟩)] from by
                  rw [List.range_succ, List.map_append]
                  congr 1
                  · apply List.map_congr_left
                    intro i hi
                    rw [ptPut_lt (List.mem_range.1 hi)]
                  · simp [ptPut_at, ptrV]]
                exact hown5
              clear hown5 hg5
              go_wp2_with fail
              go_roundw
              case rel => exact ⟨k + 1, clock', L', Z', H', ptPut pt k nb, hlt, by go_num, rfl, HO5.out, HS5.out, HRN.out, HLN.out, HB5.out, HKX5.out⟩
              case measure => simp [intOf]; omega
      · have hlt' : ¬ (k : Int) < ts.length := by omega
        have e : k = ts.length := by omega
        subst e
        obtain ⟨m, hm⟩ : ∃ m : Nat, ts.length = m + 1 := ⟨ts.length - 1, by have := HRS.out; omega⟩
        have he : (ts.length : Int) - 1 = (m : Int) := by omega
        have hm1 : m < ts.length := by omega
        have d : wr.cell? ⟨R, m, none⟩ = some (.pointer (some ⟨pt m, 0, none⟩)) := by
          rw [HO.out.cellAt m (by omega)]
          simp [hm1, ptrV]
        have hRl := lt_cell d
        have HM : Hid (m = ts.length - 1) := by show _ = _; omega
        clear hm H HTI HFI HSI HSM HSP
        go_wp2_with fail
        refine bodyPost_ret (v := .tuple #[.pointer (some ⟨pt m, 0, none⟩), .bool true]) (by simp [results, Tryz.results113, go_sem]) rfl ⟨.inr ⟨HBT.out, pt, clock, L, Z, HH, by rw [HM.out], HST.out, HRD.out, HL0.out⟩, HBL.out, HKX.out.mono (fun k hk h => h.elim id (fun h => absurd h (by omega)))⟩

end Go.Proofs.YtpmpooekpeocdaaGreat
