/- As in TeC, for a store whose levels may be the program's own. -/
import Derived.Test.YtbgibiongnhjoaaGreatTeD
import Derived.Test.YtbgibiongnhjoaaGreatPpB
namespace Go.Proofs.YtbgibiongnhjoaaGreat
open Go.ChangeShapes Go.WideShapes Go.ChangeAt Go.RowKit

set_option maxRecDepth 20000 in
set_option maxHeartbeats 16000000 in
theorem termOf2_any2 (base Sb mb gb clock : Nat) (L : List (Nk × Nat × Nat)) (Z : Nat → Zs) (H : Nat → Bool) (w0 : World) (hs : St2 base w0 Sb mb gb clock L Z H) (hbase : base ≤ w0.heap.size) (T : Tt) (b : Nat) (hT : IsT L T b) (hlv : ∀ l ∈ T.hd.lv, lvlB l = true) (hl6 : T.hd.lv.length ≤ 1048576) (w : World) (hb0 : Below w0.heap.size w0 w) (nb R cap lo : Nat) (ts : List Td) (ks : List Int) (x0 x1 x2 : Int) (hn : w.heap[nb]? = some (.cells #[.slice (some ⟨R, 0, none⟩) ts.length cap] 26 (0, 0))) (hlo : lo ≤ w.heap.size) (hts : TmV lo w.heap.size w (.slice (some ⟨R, 0, none⟩) ts.length cap) ts) (hk : ks = [x0, x1, x2].take T.kids.length) (hlen : ts.length ≤ 1048576) :
    Calls Tryz.prog 101 #[.pointer (some ⟨b, 0, none⟩), .agg #[.int .i64 x0, .int .i64 x1, .int .i64 x2], .pointer (some ⟨nb, 0, none⟩)] w fun e w' => e = .returned (.int .i64 ts.length) ∧ (∃ R' cap', w'.heap[nb]? = some (.cells #[.slice (some ⟨R', 0, none⟩) (ts.length + 1) cap'] 26 (0, 0)) ∧ TmV lo w'.heap.size w' (.slice (some ⟨R', 0, none⟩) (ts.length + 1) cap') (ts ++ [T.hd.td ks])) ∧ KeptT lo nb w w' := by
  obtain ⟨i67, hi67, hz67, hs67, hb67⟩ := info_parts Tryz.info67
  obtain ⟨ps, c, hpl, hm, _⟩ := ist_open hT
  have h3 := kids_le T
  have har := ent_arity2 (hs.ents _ hm) (by omega)
  have hkn : (tkidsN T.hd.k).toNat = ks.length := by rw [hk, List.length_take]; simp; omega
  have hkl : ks.length = T.kids.length := by omega
  obtain ⟨lv, nbt, hlvs, _⟩ := ent_levs2 (hs.ents _ hm) hlv
  have nbt : NbAt w0 b (tmL (keyP T.hd ps) lv (Z b) (H b)) := nbt
  obtain ⟨la, lc, rfl, _, _, _⟩ := hlvs w0 (Kp.of (Below.refl _ _) hbase)
  have hbl0 := nbt.lt
  obtain ⟨W1, hW1⟩ : ∃ W1, W1 = w.alloc (.cells #[.int .i64 x0, .int .i64 x1, .int .i64 x2] 133) := ⟨_, rfl⟩
  have hbW : Below w.heap.size w W1 := by rw [hW1]; exact bel_alloc (Below.refl _ _) _
  have hB1 : Below w0.heap.size w0 W1 := bel_trans hb0 hbW
  have a0 : W1.cell? ⟨b, 0, none⟩ = some (.int .i64 T.hd.k) := keep_cell hB1 (by rw [nbt.cell 0 (by omega)]; rfl)
  have a1 : W1.cell? ⟨b, 1, none⟩ = some (.int .i64 T.hd.n) := keep_cell hB1 (by rw [nbt.cell 1 (by omega)]; rfl)
  have a2 : W1.cell? ⟨b, 2, none⟩ = some (.int .i64 T.hd.m) := keep_cell hB1 (by rw [nbt.cell 2 (by omega)]; rfl)
  have a3 : W1.cell? ⟨b, 3, none⟩ = some (.string T.hd.s) := keep_cell hB1 (by rw [nbt.cell 3 (by omega)]; rfl)
  have a8 : W1.cell? ⟨b, 8, none⟩ = some (.slice la T.hd.lv.length lc) := keep_cell hB1 (by rw [nbt.cell 8 (by omega)]; rfl)
  have hnl : nb < w.heap.size := (Array.getElem?_eq_some_iff.1 hn).1
  have hn1 : W1.heap[nb]? = some (.cells #[.slice (some ⟨R, 0, none⟩) ts.length cap] 26 (0, 0)) := by rw [hbW.block _ hnl]; exact hn
  have c0 : W1.cell? ⟨nb, 0, none⟩ = some (.slice (some ⟨R, 0, none⟩) ts.length cap) := by rw [Lib.cell_of_heap hn1]; rfl
  have y0 : W1.cell? ⟨w.heap.size, 0, none⟩ = some (.int .i64 x0) := by rw [hW1]; simp [go_sem]
  have y1 : W1.cell? ⟨w.heap.size, 1, none⟩ = some (.int .i64 x1) := by rw [hW1]; simp [go_sem]
  have y2 : W1.cell? ⟨w.heap.size, 2, none⟩ = some (.int .i64 x2) := by rw [hW1]; simp [go_sem]
  have lb := lt_cell a0
  have lx := lt_cell y0
  have ln := lt_cell c0
  have HG := hide (fun (wx : World) (h : wx.heap[b]? = W1.heap[b]?) => And.intro (heap_cell h a0) (And.intro (heap_cell h a1) (And.intro (heap_cell h a2) (And.intro (heap_cell h a3) (heap_cell h a8)))))
  have HGN := hide (fun (wx : World) (h : wx.heap[nb]? = W1.heap[nb]?) => heap_cell h c0)
  have HFN := hide (fun (wx : World) (h : wx.heap[nb]? = W1.heap[nb]?) => show wx.frozen? ⟨nb, 0, none⟩ = false from Lib.frozen_of_heap (by rw [h]; exact hn1) 0)
  have HGY := hide (fun (wx : World) (h : wx.heap[w.heap.size]? = W1.heap[w.heap.size]?) => ints3 (heap_cell h y0) (heap_cell h y1) (heap_cell h y2) hk h3)
  have HCL := hide (fun (X : World) (hX : Below w0.heap.size w0 X) => copyLevels_any (.slice la T.hd.lv.length lc) T.hd.lv X (hlvs X (Kp.of hX hbase)) hl6 (fun l hl => ⟨by have := (lvl_small (hlv l hl)).1; omega, fun nd hnd => by have := (lvl_small (hlv l hl)).2 nd hnd; omega⟩))
  have HPT := hide (fun (X : World) (h : X.cell? ⟨b, 0, none⟩ = some (.int .i64 T.hd.k)) => parts_any b T.hd.k X h (by omega) (by omega))
  rw [hkn] at HPT
  have hrs := fun X => run_slice_int X w.heap.size ks.length (by omega)
  obtain ⟨xs, s, t, ho, hrg, hown, hnd⟩ := hts
  have HHO := hide ho
  have HRG := hide hrg
  have HHN := hide hown
  have HND := hide hnd
  have hRn : R ≠ nb := fun e => by
    obtain ⟨cs, hcs⟩ := row_tag ho
    rw [e, hn] at hcs
    have h2 := Option.some.inj hcs
    injection h2 with _ h3 _
    cases h3
  have hRl := (World.ownsRow.lt ho R rfl).2
  have hRx : w.heap.size ≠ R := by omega
  have hRb : b ≠ R := fun e => by
    obtain ⟨cs, hcs⟩ := row_tag ho
    obtain ⟨cs2, hcs2⟩ := nb_heap nbt
    rw [← e, hb0.block b hbl0, hcs2] at hcs
    have h2 := Option.some.inj hcs
    injection h2 with _ h3 _
    cases h3
  have hRlo := (World.ownsRow.lt ho R rfl).1
  have HB1 := hide hB1
  have HBW := hide hbW
  have HN1 := hide hn1
  have hks3 : ks.length ≤ 3 := by omega
  have hlen1 : IntKind.i64.wrap ((ts.length : Int) + 1 - 1) = (ts.length : Int) := by rw [IntKind.wrap_i64]; omega
  have hS0 : (fun w' : World => w'.heap[b]? = W1.heap[b]? ∧ w'.heap[nb]? = W1.heap[nb]? ∧ w'.heap[w.heap.size]? = W1.heap[w.heap.size]?) W1.drew := ⟨rfl, rfl, rfl⟩
  clear hs hbase hT hlv hb0 hn hk hm hpl har hkn hkl nbt hlvs hbl0 hbW hB1 a0 a1 a2 a3 a8 c0 y0 y1 y2 ho hrg hown hnd hn1
  go_enter Tryz.func101, Tryz.ntmps101
  go_wp2_with fail
  rw [← hW1]
  clear hW1
  refine anyE_region (L := 34) (S := fun w' : World => w'.heap[b]? = W1.heap[b]? ∧ w'.heap[nb]? = W1.heap[nb]? ∧ w'.heap[w.heap.size]? = W1.heap[w.heap.size]?) (by kernel_rfl) ?_
  refine anyE_take 0 (v := ?v1) rfl (by kernel_rfl) (by kernel_rfl) (by kernel_rfl) (by kernel_rfl) (fun _ _ _ h => h) (by rfl) ?hy1 hS0 ?rest1
  case hy1 =>
    intro wx hx
    obtain ⟨m0, m1, m2, m3, m8⟩ := HG.out wx hx.1
    have mn := HGN.out wx hx.2.1
    go_simp
    try rfl
  case rest1 =>
  intro K hK
  go_simp
  refine hK.out _ ?_
  clear hK K
  refine anyE_take 1 (v := ?v2) rfl (by kernel_rfl) (by kernel_rfl) (by kernel_rfl) (by kernel_rfl) (fun _ _ _ h => h) (by rfl) ?hy2 hS0 ?rest2
  case hy2 =>
    intro wx hx
    obtain ⟨m0, m1, m2, m3, m8⟩ := HG.out wx hx.1
    have mn := HGN.out wx hx.2.1
    go_simp
    try rfl
  case rest2 =>
  intro K hK
  go_simp
  refine hK.out _ ?_
  clear hK K
  refine anyE_take 2 (v := ?v3) rfl (by kernel_rfl) (by kernel_rfl) (by kernel_rfl) (by kernel_rfl) (fun _ _ _ h => h) (by rfl) ?hy3 hS0 ?rest3
  case hy3 =>
    intro wx hx
    obtain ⟨m0, m1, m2, m3, m8⟩ := HG.out wx hx.1
    have mn := HGN.out wx hx.2.1
    go_simp
    try rfl
  case rest3 =>
  intro K hK
  go_simp
  refine hK.out _ ?_
  clear hK K
  refine anyE_take 3 (v := ?v4) rfl (by kernel_rfl) (by kernel_rfl) (by kernel_rfl) (by kernel_rfl) (fun _ _ _ h => h) (by rfl) ?hy4 hS0 ?rest4
  case hy4 =>
    intro wx hx
    obtain ⟨m0, m1, m2, m3, m8⟩ := HG.out wx hx.1
    have mn := HGN.out wx hx.2.1
    go_simp
    try rfl
  case rest4 =>
  intro K hK
  go_simp
  refine hK.out _ ?_
  clear hK K
  refine anyE_take 4 (v := ?v5) rfl (by kernel_rfl) (by kernel_rfl) (by kernel_rfl) (by kernel_rfl) (fun _ _ _ h => h) (by rfl) ?hy5 hS0 ?rest5
  case hy5 =>
    intro wx hx
    obtain ⟨m0, m1, m2, m3, m8⟩ := HG.out wx hx.1
    have mn := HGN.out wx hx.2.1
    go_simp
    try rfl
  case rest5 =>
  intro K hK
  go_simp
  refine hK.out _ ?_
  clear hK K
  refine anyE_take 5 (v := ?v6) rfl (by kernel_rfl) (by kernel_rfl) (by kernel_rfl) (by kernel_rfl) (fun _ _ _ h => h) (by rfl) ?hy6 hS0 ?rest6
  case hy6 =>
    intro wx hx
    obtain ⟨m0, m1, m2, m3, m8⟩ := HG.out wx hx.1
    have mn := HGN.out wx hx.2.1
    go_simp
    try rfl
  case rest6 =>
  intro K hK
  go_simp
  refine hK.out _ ?_
  clear hK K
  refine anyE_take 6 (v := ?v7) rfl (by kernel_rfl) (by kernel_rfl) (by kernel_rfl) (by kernel_rfl) (fun _ _ _ h => h) (by rfl) ?hy7 hS0 ?rest7
  case hy7 =>
    intro wx hx
    obtain ⟨m0, m1, m2, m3, m8⟩ := HG.out wx hx.1
    have mn := HGN.out wx hx.2.1
    go_simp
    try rfl
  case rest7 =>
  intro K hK
  go_simp
  refine hK.out _ ?_
  clear hK K
  refine anyE_take 7 (v := ?v8) rfl (by kernel_rfl) (by kernel_rfl) (by kernel_rfl) (by kernel_rfl) (fun _ _ _ h => h) (by rfl) ?hy8 hS0 ?rest8
  case hy8 =>
    intro wx hx
    obtain ⟨m0, m1, m2, m3, m8⟩ := HG.out wx hx.1
    have mn := HGN.out wx hx.2.1
    go_simp
    try rfl
  case rest8 =>
  intro K hK
  go_simp
  refine hK.out _ ?_
  clear hK K
  refine anyE_take 8 (v := ?v9) rfl (by kernel_rfl) (by kernel_rfl) (by kernel_rfl) (by kernel_rfl) (fun _ _ _ h => h) (by rfl) ?hy9 hS0 ?rest9
  case hy9 =>
    intro wx hx
    obtain ⟨m0, m1, m2, m3, m8⟩ := HG.out wx hx.1
    have mn := HGN.out wx hx.2.1
    go_simp
    try rfl
  case rest9 =>
  intro K hK
  go_simp
  refine hK.out _ ?_
  clear hK K
  refine anyE_take 9 (v := ?v10) rfl (by kernel_rfl) (by kernel_rfl) (by kernel_rfl) (by kernel_rfl) (fun _ _ _ h => h) (by rfl) ?hy10 hS0 ?rest10
  case hy10 =>
    intro wx hx
    obtain ⟨m0, m1, m2, m3, m8⟩ := HG.out wx hx.1
    have mn := HGN.out wx hx.2.1
    go_simp
    try rfl
  case rest10 =>
  intro K hK
  go_simp
  refine hK.out _ ?_
  clear hK K
  refine anyE_take 10 (v := ?v11) rfl (by kernel_rfl) (by kernel_rfl) (by kernel_rfl) (by kernel_rfl) (fun _ _ _ h => h) (by rfl) ?hy11 hS0 ?rest11
  case hy11 =>
    intro wx hx
    obtain ⟨m0, m1, m2, m3, m8⟩ := HG.out wx hx.1
    have mn := HGN.out wx hx.2.1
    go_simp
    try rfl
  case rest11 =>
  intro K hK
  go_simp
  refine hK.out _ ?_
  clear hK K
  refine anyE_take 11 (v := ?v12) rfl (by kernel_rfl) (by kernel_rfl) (by kernel_rfl) (by kernel_rfl) (fun _ _ _ h => h) (by rfl) ?hy12 hS0 ?rest12
  case hy12 =>
    intro wx hx
    obtain ⟨m0, m1, m2, m3, m8⟩ := HG.out wx hx.1
    have mn := HGN.out wx hx.2.1
    go_simp
    try rfl
  case rest12 =>
  intro K hK
  go_simp
  refine hK.out _ ?_
  clear hK K
  refine anyE_take 12 (v := ?v13) rfl (by kernel_rfl) (by kernel_rfl) (by kernel_rfl) (by kernel_rfl) (fun _ _ _ h => h) (by rfl) ?hy13 hS0 ?rest13
  case hy13 =>
    intro wx hx
    obtain ⟨m0, m1, m2, m3, m8⟩ := HG.out wx hx.1
    have mn := HGN.out wx hx.2.1
    go_simp
    try rfl
  case rest13 =>
  intro K hK
  go_simp
  refine hK.out _ ?_
  clear hK K
  refine anyE_take 13 (v := ?v14) rfl (by kernel_rfl) (by kernel_rfl) (by kernel_rfl) (by kernel_rfl) (fun _ _ _ h => h) (by rfl) ?hy14 hS0 ?rest14
  case hy14 =>
    intro wx hx
    obtain ⟨m0, m1, m2, m3, m8⟩ := HG.out wx hx.1
    have mn := HGN.out wx hx.2.1
    go_simp
    try rfl
  case rest14 =>
  intro K hK
  go_simp
  refine hK.out _ ?_
  clear hK K
  refine anyE_take 14 (v := ?v15) rfl (by kernel_rfl) (by kernel_rfl) (by kernel_rfl) (by kernel_rfl) (fun _ _ _ h => h) (by rfl) ?hy15 hS0 ?rest15
  case hy15 =>
    intro wx hx
    obtain ⟨m0, m1, m2, m3, m8⟩ := HG.out wx hx.1
    have mn := HGN.out wx hx.2.1
    go_simp
    try rfl
  case rest15 =>
  intro K hK
  go_simp
  refine hK.out _ ?_
  clear hK K
  refine anyE_take 15 (v := ?v16) rfl (by kernel_rfl) (by kernel_rfl) (by kernel_rfl) (by kernel_rfl) (fun _ _ _ h => h) (by rfl) ?hy16 hS0 ?rest16
  case hy16 =>
    intro wx hx
    obtain ⟨m0, m1, m2, m3, m8⟩ := HG.out wx hx.1
    have mn := HGN.out wx hx.2.1
    go_simp
    try rfl
  case rest16 =>
  intro K hK
  go_simp
  refine hK.out _ ?_
  clear hK K
  refine anyE_take 16 (v := ?v17) rfl (by kernel_rfl) (by kernel_rfl) (by kernel_rfl) (by kernel_rfl) (fun _ _ _ h => h) (by rfl) ?hy17 hS0 ?rest17
  case hy17 =>
    intro wx hx
    obtain ⟨m0, m1, m2, m3, m8⟩ := HG.out wx hx.1
    have mn := HGN.out wx hx.2.1
    go_simp
    try rfl
  case rest17 =>
  intro K hK
  go_simp
  refine hK.out _ ?_
  clear hK K
  refine anyE_take 17 (v := ?v18) rfl (by kernel_rfl) (by kernel_rfl) (by kernel_rfl) (by kernel_rfl) (fun _ _ _ h => h) (by rfl) ?hy18 hS0 ?rest18
  case hy18 =>
    intro wx hx
    obtain ⟨m0, m1, m2, m3, m8⟩ := HG.out wx hx.1
    have mn := HGN.out wx hx.2.1
    go_simp
    try rfl
  case rest18 =>
  intro K hK
  go_simp
  refine hK.out _ ?_
  clear hK K
  refine anyE_take 18 (v := ?v19) rfl (by kernel_rfl) (by kernel_rfl) (by kernel_rfl) (by kernel_rfl) (fun _ _ _ h => h) (by rfl) ?hy19 hS0 ?rest19
  case hy19 =>
    intro wx hx
    obtain ⟨m0, m1, m2, m3, m8⟩ := HG.out wx hx.1
    have mn := HGN.out wx hx.2.1
    go_simp
    try rfl
  case rest19 =>
  intro K hK
  go_simp
  refine hK.out _ ?_
  clear hK K
  refine anyE_take 19 (v := ?v20) rfl (by kernel_rfl) (by kernel_rfl) (by kernel_rfl) (by kernel_rfl) (fun _ _ _ h => h) (by rfl) ?hy20 hS0 ?rest20
  case hy20 =>
    intro wx hx
    obtain ⟨m0, m1, m2, m3, m8⟩ := HG.out wx hx.1
    have mn := HGN.out wx hx.2.1
    go_simp
    try rfl
  case rest20 =>
  intro K hK
  go_simp
  refine hK.out _ ?_
  clear hK K
  refine anyE_take 20 (v := ?v21) rfl (by kernel_rfl) (by kernel_rfl) (by kernel_rfl) (by kernel_rfl) (fun _ _ _ h => h) (by rfl) ?hy21 hS0 ?rest21
  case hy21 =>
    intro wx hx
    obtain ⟨m0, m1, m2, m3, m8⟩ := HG.out wx hx.1
    have mn := HGN.out wx hx.2.1
    go_simp
    try rfl
  case rest21 =>
  intro K hK
  go_simp
  refine hK.out _ ?_
  clear hK K
  refine anyE_take 21 (v := ?v22) rfl (by kernel_rfl) (by kernel_rfl) (by kernel_rfl) (by kernel_rfl) (fun _ _ _ h => h) (by rfl) ?hy22 hS0 ?rest22
  case hy22 =>
    intro wx hx
    obtain ⟨m0, m1, m2, m3, m8⟩ := HG.out wx hx.1
    have mn := HGN.out wx hx.2.1
    go_simp
    try rfl
  case rest22 =>
  intro K hK
  go_simp
  refine hK.out _ ?_
  clear hK K
  refine anyE_take 22 (v := ?v23) rfl (by kernel_rfl) (by kernel_rfl) (by kernel_rfl) (by kernel_rfl) (fun _ _ _ h => h) (by rfl) ?hy23 hS0 ?rest23
  case hy23 =>
    intro wx hx
    obtain ⟨m0, m1, m2, m3, m8⟩ := HG.out wx hx.1
    have mn := HGN.out wx hx.2.1
    go_simp
    try rfl
  case rest23 =>
  intro K hK
  go_simp
  refine hK.out _ ?_
  clear hK K
  refine anyE_take 23 (v := ?v24) rfl (by kernel_rfl) (by kernel_rfl) (by kernel_rfl) (by kernel_rfl) (fun _ _ _ h => h) (by rfl) ?hy24 hS0 ?rest24
  case hy24 =>
    intro wx hx
    obtain ⟨m0, m1, m2, m3, m8⟩ := HG.out wx hx.1
    have mn := HGN.out wx hx.2.1
    go_simp
    try rfl
  case rest24 =>
  intro K hK
  go_simp
  refine hK.out _ ?_
  clear hK K
  refine anyE_take 24 (v := ?v25) rfl (by kernel_rfl) (by kernel_rfl) (by kernel_rfl) (by kernel_rfl) (fun _ _ _ h => h) (by rfl) ?hy25 hS0 ?rest25
  case hy25 =>
    intro wx hx
    obtain ⟨m0, m1, m2, m3, m8⟩ := HG.out wx hx.1
    have mn := HGN.out wx hx.2.1
    go_simp
    try rfl
  case rest25 =>
  intro K hK
  go_simp
  refine hK.out _ ?_
  clear hK K
  refine anyE_take 26 (v := ?v26) rfl (by kernel_rfl) (by kernel_rfl) (by kernel_rfl) (by kernel_rfl) (fun _ _ _ h => h) (by rfl) ?hy26 hS0 ?rest26
  case hy26 =>
    intro wx hx
    obtain ⟨m0, m1, m2, m3, m8⟩ := HG.out wx hx.1
    have mn := HGN.out wx hx.2.1
    go_simp
    try rfl
  case rest26 =>
  intro K hK
  go_simp
  refine hK.out _ ?_
  clear hK K
  have szV : W1.heap.size ≤ W1.drew.heap.size := Nat.le_refl _
  obtain ⟨V, hV⟩ : ∃ V, V = W1.drew := ⟨_, rfl⟩
  rw [← hV] at hS0 szV ⊢
  have sV : V.heap[b]? = W1.heap[b]? ∧ V.heap[nb]? = W1.heap[nb]? ∧ V.heap[w.heap.size]? = W1.heap[w.heap.size]? := hS0
  have BV : Below w0.heap.size w0 V := by rw [hV]; exact HB1.out.drew
  have DV : Below w.heap.size w V := by rw [hV]; exact HBW.out.drew
  clear hV hS0
  refine anyE_one 25 (by kernel_rfl) rfl (fun K hK => ?_)
  go_simp
  refine (HCL.out V BV).mono ?_
  rintro e Y1 ⟨adl, cpl, rfl, hls, hbY1⟩
  have sY1 : Y1.heap[b]? = W1.heap[b]? ∧ Y1.heap[nb]? = W1.heap[nb]? ∧ Y1.heap[w.heap.size]? = W1.heap[w.heap.size]? := ⟨(hbY1.block _ (Nat.lt_of_lt_of_le lb szV)).trans sV.1, (hbY1.block _ (Nat.lt_of_lt_of_le ln szV)).trans sV.2.1, (hbY1.block _ (Nat.lt_of_lt_of_le lx szV)).trans sV.2.2⟩
  have szY1 : W1.heap.size ≤ Y1.heap.size := Nat.le_trans szV hbY1.size
  have BY1 := bel_trans BV hbY1
  have DY1 := bel_trans DV hbY1
  refine hK.out _ _ (fun _ => sY1) ?_
  clear hK K
  refine anyE_one 27 (by kernel_rfl) rfl (fun K hK => ?_)
  go_simp
  refine (HPT.out Y1 (HG.out Y1 sY1.1).1).mono ?_
  rintro e Y2 ⟨rfl, hbY2⟩
  have sY2 : Y2.heap[b]? = W1.heap[b]? ∧ Y2.heap[nb]? = W1.heap[nb]? ∧ Y2.heap[w.heap.size]? = W1.heap[w.heap.size]? := ⟨(hbY2.block _ (Nat.lt_of_lt_of_le lb szY1)).trans sY1.1, (hbY2.block _ (Nat.lt_of_lt_of_le ln szY1)).trans sY1.2.1, (hbY2.block _ (Nat.lt_of_lt_of_le lx szY1)).trans sY1.2.2⟩
  have szY2 : W1.heap.size ≤ Y2.heap.size := Nat.le_trans szY1 hbY2.size
  have BY2 := bel_trans BY1 hbY2
  have DY2 := bel_trans DY1 hbY2
  refine hK.out _ _ (fun _ => sY2) ?_
  clear hK K
  refine anyE_take 28 (v := ?v27) rfl (by kernel_rfl) (by kernel_rfl) (by kernel_rfl) (by kernel_rfl) (fun _ _ _ h => h) (by rfl) ?hy27 sY2 ?rest27
  case hy27 =>
    intro wx hx
    obtain ⟨m0, m1, m2, m3, m8⟩ := HG.out wx hx.1
    have mn := HGN.out wx hx.2.1
    go_simp
    try rfl
  case rest27 =>
  intro K hK
  go_simp
  refine hK.out _ ?_
  clear hK K
  refine anyE_take 29 (v := ?v28) rfl (by kernel_rfl) (by kernel_rfl) (by kernel_rfl) (by kernel_rfl) (fun _ _ _ h => h) (by rfl) ?hy28 sY2 ?rest28
  case hy28 =>
    intro wx hx
    obtain ⟨m0, m1, m2, m3, m8⟩ := HG.out wx hx.1
    have mn := HGN.out wx hx.2.1
    go_simp
    try rfl
  case rest28 =>
  intro K hK
  go_simp
  refine hK.out _ ?_
  clear hK K
  refine anyE_one 30 (by kernel_rfl) rfl (fun K hK => ?_)
  refine step_copy_kids rfl _ _ rfl w.heap.size (.slice (some ⟨w.heap.size, 0, none⟩) ks.length 3) ks rfl rfl (HGY.out Y2 sY2.2.2) (by omega) (by have := DY2.size; omega) ?_
  intro adk cpk Y3 hkr hbY3 hknew
  have sY3 : Y3.heap[b]? = W1.heap[b]? ∧ Y3.heap[nb]? = W1.heap[nb]? ∧ Y3.heap[w.heap.size]? = W1.heap[w.heap.size]? := ⟨(hbY3.block _ (Nat.lt_of_lt_of_le lb szY2)).trans sY2.1, (hbY3.block _ (Nat.lt_of_lt_of_le ln szY2)).trans sY2.2.1, (hbY3.block _ (Nat.lt_of_lt_of_le lx szY2)).trans sY2.2.2⟩
  have szY3 : W1.heap.size ≤ Y3.heap.size := Nat.le_trans szY2 hbY3.size
  have BY3 := bel_trans BY2 hbY3
  have DY3 := bel_trans DY2 hbY3
  refine hK.out _ _ (fun _ => sY3) ?_
  clear hK K
  have HTV : Hid (TdV w.heap.size Y3.heap.size Y3 (.slice adl T.hd.lv.length cpl) (.slice adk ks.length cpk) (T.hd.td ks)) := ⟨V.heap.size, Y1.heap.size, DV.size, hbY1.size, by have := hbY2.size; have := hbY3.size; omega, (hls.keep hbY2 (Nat.le_refl _)).keep hbY3 (by have := hbY2.size; omega), hkr, fun q hq => ⟨(World.ownsRow.lt hkr q hq).2, .inr (by have := hknew q hq; have := hbY2.size; omega)⟩⟩
  have HD := hide DY3
  have hsx := sY3
  obtain ⟨X, hXX⟩ : ∃ X, X = Y3 := ⟨_, rfl⟩
  rw [← hXX] at HTV HD hsx ⊢
  have hXs : W1.heap.size ≤ X.heap.size := by rw [hXX]; exact szY3
  clear hXX hls hkr hknew HCL HPT HG HGY hrs
  refine anyE_one 31 (by kernel_rfl) rfl (fun K hK => ?_)
  go_simp
  refine hK.out _ _ (fun _ => hsx) ?_
  clear hK K
  refine anyE_one 32 (by kernel_rfl) rfl (fun K hK => ?_)
  go_simp
  obtain ⟨W3, hW3⟩ : ∃ W3, W3 = X.alloc (.cells #[.int .i64 T.hd.k, .int .i64 T.hd.n, .int .i64 T.hd.m, .string T.hd.s, .slice adl T.hd.lv.length cpl, .slice adk ks.length cpk] 67) := ⟨_, rfl⟩
  rw [← hW3]
  have hb3 : Below X.heap.size X W3 := by rw [hW3]; exact bel_alloc (Below.refl _ _) _
  have hh3 : W3.heap[X.heap.size]? = some (.cells #[.int .i64 T.hd.k, .int .i64 T.hd.n, .int .i64 T.hd.m, .string T.hd.s, .slice adl T.hd.lv.length cpl, .slice adk ks.length cpk] 67 (0, 0)) := by rw [hW3]; exact heap_alloc_new X _
  have hs3 : W3.heap[b]? = W1.heap[b]? ∧ W3.heap[nb]? = W1.heap[nb]? ∧ W3.heap[w.heap.size]? = W1.heap[w.heap.size]? := ⟨(hb3.block _ (by omega)).trans hsx.1, (hb3.block _ (by omega)).trans hsx.2.1, (hb3.block _ (by omega)).trans hsx.2.2⟩
  refine hK.out _ _ (fun _ => hs3) ?_
  clear hK K
  have hsz3 := hb3.size
  have HTV3 : Hid (TdV w.heap.size W3.heap.size W3 (.slice adl T.hd.lv.length cpl) (.slice adk ks.length cpk) (T.hd.td ks)) := (HTV.out.same (fun q _ q2 => hb3.block q q2)).mono (Nat.le_refl _) hsz3
  have HD3 := hide (bel_trans HD.out hb3)
  have HOW3 := hide (row_keep HD3.out HHO.out)
  clear hb3 HTV HD hW3 hsx
  refine anyE_one 33 (by kernel_rfl) rfl (fun K hK => ?_)
  refine step_append_lies _ rfl _ _ 26 rfl lo 67 i67 (.agg #[.int .i64 0, .int .i64 0, .int .i64 0, .string ⟨#[]⟩, .slice none 0 0, .slice none 0 0]) 6 88 Tryz.underlying26 hi67 hz67 hs67 hb67 rfl (by omega) (.slice (some ⟨R, 0, none⟩) ts.length cap) ts.length xs rfl HOW3.out ⟨X.heap.size, 0, none⟩ 1 1 [.int .i64 T.hd.k, .int .i64 T.hd.n, .int .i64 T.hd.m, .string T.hd.s, .slice adl T.hd.lv.length cpl, .slice adk ks.length cpk] rfl rfl (World.news_of_block (cs := #[.int .i64 T.hd.k, .int .i64 T.hd.n, .int .i64 T.hd.m, .string T.hd.s, .slice adl T.hd.lv.length cpl, .slice adk ks.length cpk]) (t := 67) (fr := (0, 0)) hh3) (by intro u hu; simp at hu; rcases hu with rfl | rfl | rfl | rfl | rfl | rfl <;> rfl) (by omega) (by unfold maxLen; omega) (by omega) (by have := HD3.out.size; omega) W3.heap.size rfl ?_
  intro g4 cap4 w4 hown4 hgrow4 hat4 hlt4
  have hD3s := HD3.out.size
  have hs4 : w4.heap[b]? = W1.heap[b]? ∧ w4.heap[nb]? = W1.heap[nb]? ∧ w4.heap[w.heap.size]? = W1.heap[w.heap.size]? := ⟨(hgrow4.block _ (by omega) (fun e => hRb (Option.some.inj e))).trans hs3.1, (hgrow4.block _ (by omega) (fun e => hRn (Option.some.inj e).symm)).trans hs3.2.1, (hgrow4.block _ (by omega) (fun e => hRx (Option.some.inj e))).trans hs3.2.2⟩
  refine hK.out _ _ (fun _ => hs4) ?_
  clear hK K
  have hend := TmV.snoc (ts := ts) (td := T.hd.td ks) hlo HD3.out HHO.out HRG.out HHN.out HND.out HTV3.out hgrow4 (by rcases hat4 with h | h; exact .inl h; exact .inr (by omega)) hlt4 hown4
  have HE := hide hend
  have mn := HGN.out w4 hs4.2.1
  have fn := HFN.out w4 hs4.2.1
  have HN4 : Hid (w4.heap[nb]? = some (.cells #[.slice (some ⟨R, 0, none⟩) ts.length cap] 26 (0, 0))) := hs4.2.1.trans HN1.out
  have HK4 : Hid (KeptT lo nb w w4) := by
    refine ⟨hgrow4.os.trans HD3.out.os, hgrow4.tape.trans HD3.out.tape, hgrow4.output.trans HD3.out.output, Nat.le_trans hD3s hgrow4.size, fun k hk hkn hkc => ?_⟩
    rw [hgrow4.block k (by omega) (fun e => ?_), HD3.out.block k hk]
    have e : k = R := Option.some.inj e
    subst e
    rcases hkc with h | h
    · omega
    · obtain ⟨cs, hcs⟩ := row_tag HHO.out
      exact h _ _ hcs
  have hg4 : R = g4 ∨ W3.heap.size ≤ g4 := by
    rcases hat4 with h | h
    · exact .inl (Option.some.inj h)
    · exact .inr (by omega)
  have hnl4 : nb < w4.heap.size := lt_cell mn
  have hgn4 : g4 ≠ nb := by rcases hg4 with h | h <;> omega
  clear hend hown4 hgrow4 hat4 HOW3 HTV3 HHO HRG HHN HND HGN HFN hh3 HD3
  refine anyE_one 34 (by kernel_rfl) rfl (fun K hK => ?_)
  go_simp
  refine hK.out _ _ (fun h => absurd rfl h) ?_
  clear hK K
  refine anyE_done (by kernel_rfl) ?_ _
  obtain ⟨W5, hW5⟩ : ∃ W5, W5 = w4.setCell ⟨nb, 0, none⟩ (.slice (some ⟨g4, 0, none⟩) (ts.length + 1) cap4) := ⟨_, rfl⟩
  have c5 : W5.cell? ⟨nb, 0, none⟩ = some (.slice (some ⟨g4, 0, none⟩) (ts.length + 1) cap4) := by rw [hW5]; simp [go_sem, mn]
  have n5 : nb < W5.heap.size := lt_cell c5
  have HN5 : Hid (W5.heap[nb]? = some (.cells #[.slice (some ⟨g4, 0, none⟩) (ts.length + 1) cap4] 26 (0, 0))) := by
    show _ = _
    rw [hW5]
    exact set_one HN4.out _
  have hh5 : ∀ k, k ≠ nb → W5.heap[k]? = w4.heap[k]? := fun k hk => by rw [hW5]; exact Below.heap_setCell w4 _ _ k hk
  have hs5 : W5.heap.size = w4.heap.size := by rw [hW5, size_set]
  have HE5 : Hid (TmV lo W5.heap.size W5 (.slice (some ⟨g4, 0, none⟩) (ts.length + 1) cap4) (ts ++ [T.hd.td ks])) := by
    show TmV _ _ _ _ _
    rw [hs5]
    exact tmV_off HE.out HN4.out hh5
  have HK5 : Hid (KeptT lo nb w W5) := by
    have h := HK4.out
    refine ⟨by rw [hW5]; exact h.os, by rw [hW5]; exact h.tape, by rw [hW5]; exact h.output, by rw [hs5]; exact h.size, fun k hk hkn hkc => ?_⟩
    rw [hh5 k hkn]
    exact h.block k hk hkn hkc
  rw [← hW5]
  clear hW5 HN4 HE HK4 hh5 mn fn
  go_wp2_with fail
  go_ret
  exact ⟨rfl, ⟨g4, cap4, HN5.out, HE5.out⟩, HK5.out⟩
end Go.Proofs.YtbgibiongnhjoaaGreat
