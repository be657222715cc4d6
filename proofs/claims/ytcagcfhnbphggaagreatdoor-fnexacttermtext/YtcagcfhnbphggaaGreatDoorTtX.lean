/- The program's TermText. -/
import Derived.Test.YtcagcfhnbphggaaGreatDoorTtM
import Derived.Test.YtcagcfhnbphggaaGreatDoorTSpD
import Derived.Test.YtcagcfhnbphggaaGreatDoorTtV
import Derived.Test.YtcagcfhnbphggaaGreatDoorTFTree
namespace Go.Proofs.YtcagcfhnbphggaaGreatDoor
open Go.ChangeShapes Go.WideShapes Go.ChangeAt Go.RowKit

theorem own_base {base b2 : Nat} {w : World} {e : TypeId} {size : Nat} {v : Value} {n : Nat} {xs : List Value} (h : w.ownsRow base e size v n xs) (hb : b2 ≤ base) : w.ownsRow b2 e size v n xs := by
  obtain ⟨h1, h2⟩ := h
  rcases h2 with ⟨h3, h4⟩ | ⟨g, cap, cur, h3, h4, h5⟩
  · exact ⟨h1, .inl ⟨h3, h4⟩⟩
  · exact ⟨h1, .inr ⟨g, cap, cur, h3, Nat.le_trans hb h4, h5⟩⟩
set_option maxRecDepth 20000 in
set_option maxHeartbeats 4000000 in
theorem wt_any {w0 : World} {v : Value} {ts : List Td} (C : Ctx w0 v ts) (hp : 1 ≤ ts.length) (wb : Nat) (w : World) (hblk : w.heap[wb]? = some (.cells #[.slice none 0 0, .slice none 0 0] 46 (0, 0))) (h0 : w0.heap.size ≤ wb) (hb0 : Below w0.heap.size w0 w) :
    Calls Tryz.prog 19 #[.pointer (some ⟨wb, 0, none⟩), .agg #[v]] w fun e w' => (∃ u, e = .returned u) ∧ IsW (wb + 1) wb v (wrT ts ts.length (ts.length - 1) []) w' ∧ FrW wb w w' := by
  have hwl : wb < w.heap.size := (Array.getElem?_eq_some_iff.1 hblk).1
  have HN := hide C.nodes
  obtain ⟨na, nc, rfl, hnl, hnm, _⟩ := C.nodes
  unfold maxLen at hnm
  have HWR : Hid (∀ (B wb : Nat) (bs : List UInt8) (w : World), IsW B wb (.slice na ts.length nc) bs w → w0.heap.size ≤ wb → Below w0.heap.size w0 w → bs.length ≤ 600000 →
      Calls Tryz.prog 35 #[.pointer (some ⟨wb, 0, none⟩), .int .i64 ((ts.length : Int) - 1)] w fun e w' => (∃ v, e = .returned v) ∧ IsW B wb (.slice na ts.length nc) (wrT ts ts.length (ts.length - 1) bs) w' ∧ FrW wb w w') := by
    show ∀ B : Nat, _
    rw [show (ts.length : Int) - 1 = ((ts.length - 1 : Nat) : Int) by omega]
    exact write_all C ts.length (ts.length - 1) (by have := C.len; omega) (by omega) (by omega)
  have k0 : w.cell? ⟨wb, 0, none⟩ = some (.slice none 0 0) := by rw [cell_of_row _ _ _ _ _ _ hblk]; rfl
  have f0 : w.frozen? ⟨wb, 0, none⟩ = false := Lib.frozen_of_heap hblk 0
  obtain ⟨o, ho⟩ : ∃ o, o = Obj.cells #[.slice na ts.length nc] 31 := ⟨_, rfl⟩
  have HB := hide hblk
  have HB0 := hide hb0
  clear hblk hb0
  have HW3 : Hid (IsW (wb + 1) wb (.slice na ts.length nc) [] (w.setCell ⟨wb, 0, none⟩ (.slice na ts.length nc))) :=
    ⟨⟨_, heap_setCell_same w wb 0 _ 46 _ HB.out, World.ownsRow_nil _ _ _ _⟩, by omega, by simp; omega⟩
  have HF3 : Hid (FrW wb w (w.setCell ⟨wb, 0, none⟩ (.slice na ts.length nc))) :=
    ⟨(Below.refl wb w).setCell (p := ⟨wb, 0, none⟩) (Nat.le_refl wb) _, (Lib.OthersKept.refl 5 (some wb) w).setCell ⟨wb, 0, none⟩ rfl _⟩
  clear ho
  go_enter Tryz.func19, Tryz.ntmps19
  go_upto_region 2 with fail
  go_wp2_with (first
    | (go_at_call 35; refine (HWR.out (wb + 1) wb [] _ (HW3.out.keep (bel_alloc (Below.refl _ _) _)) h0 (HB0.out.trans ((HF3.out.trans (.keep (bel_alloc (Below.refl _ _) _) (by simp; omega))).bel.mono h0)) (by simp)).mono ?_; rintro e w8 ⟨⟨v8, rfl⟩, hw8, hf8⟩; have HW8 := hide hw8; have HF8 := hide ((HF3.out.trans (FrW.keep (bel_alloc (Below.refl _ _) _) (by simp; omega))).trans hf8); clear hw8 hf8)
    | fail)
  exact bodyPost_end (results_none Tryz.results19 _ _ _) rfl ⟨⟨_, rfl⟩, HW8.out, HF8.out⟩
/-- What TermText answers. -/
noncomputable def ttT (ts : List Td) : List UInt8 := wrT ts ts.length (ts.length - 1) []
def TtOut (bs : List UInt8) (b : Bool) (w : World) (e : Ending) (w' : World) : Prop :=
  ∃ v, e = .returned (.tuple #[v, .bool b]) ∧ w'.ownsRow w.heap.size 5 1 v bs.length (bC bs) ∧ Below w.heap.size w w'
set_option maxRecDepth 20000 in
set_option maxHeartbeats 4000000 in
theorem implTt_bad (v : Value) (ts : List Td) (w : World) (hns : TNodesAt w v ts) (hsz : ∀ td ∈ ts, TLens td) (hb : termB ts = false) :
    Calls Tryz.prog 7 #[.agg #[v]] w (TtOut [] false w) := by
  have HN := hide hns
  obtain ⟨na, nc, rfl, hnl, hnm, _⟩ := hns
  have HOK := hide (fun W (hW : Below w.heap.size w W) => implTermOk_any _ ts W (HN.out.keep hW) hsz)
  rw [hb] at HOK
  clear hb
  go_enter Tryz.func7, Tryz.ntmps7
  go_wp2_with (first
    | (go_at_call 18; refine (HOK.out _ (bel_alloc (Below.refl _ _) _)).mono ?_; rintro e w2 ⟨rfl, hb2⟩; have HB2 := hide (bel_trans (bel_alloc (Below.refl _ _) _) hb2); clear hb2)
    | fail)
  refine bodyPost_ret (v := .tuple #[.slice none 0 0, .bool false]) (by simp [results, Tryz.results7, go_sem]) rfl ⟨_, rfl, World.ownsRow_nil _ _ _ _, HB2.out⟩
set_option maxRecDepth 20000 in
set_option maxHeartbeats 4000000 in
theorem implTt_ok (v : Value) (ts : List Td) (w : World) (C : Ctx w v ts) (hb : termB ts = true) :
    Calls Tryz.prog 7 #[.agg #[v]] w (TtOut (if 400000 < (ttT ts).length then [] else ttT ts) (decide (¬ 400000 < (ttT ts).length)) w) := by
  have HN := hide C.nodes
  have hp := (term_pos hb).1
  obtain ⟨na, nc, rfl, hnl, hnm, _⟩ := C.nodes
  have HOK := hide (fun W (hW : Below w.heap.size w W) => implTermOk_any _ ts W (HN.out.keep hW) C.lens)
  rw [hb] at HOK
  clear hb
  go_enter Tryz.func7, Tryz.ntmps7
  go_upto_region 3 with (first
    | (go_at_call 18; refine (HOK.out _ (bel_alloc (Below.refl _ _) _)).mono ?_; rintro e w2 ⟨rfl, hb2⟩)
    | fail)
  have HB2 := hide (bel_trans (bel_alloc (Below.refl _ _) _) hb2)
  have c0 : w2.cell? ⟨w.heap.size, 0, none⟩ = some (.slice na ts.length nc) := keep_cell hb2 (by rw [World.cell?_alloc_new]; rfl)
  have hz2 : w.heap.size < w2.heap.size := lt_cell c0
  have HC := hide C
  clear hb2
  have HWT : Hid (∀ o : Obj, o = .cells #[.slice none 0 0, .slice none 0 0] 46 → Calls Tryz.prog 19 #[.pointer (some ⟨w2.heap.size, 0, none⟩), .agg #[.slice na ts.length nc]] (w2.alloc o) fun e w' => (∃ u, e = .returned u) ∧ IsW (w2.heap.size + 1) w2.heap.size (.slice na ts.length nc) (ttT ts) w' ∧ FrW w2.heap.size (w2.alloc o) w') := by
    show ∀ o : Obj, _
    rintro o rfl
    exact wt_any HC.out hp w2.heap.size _ (heap_alloc_new _ _) (by omega) (HB2.out.trans ((bel_alloc (Below.refl _ _) _).mono (by omega)))
  go_upto_region 5 with (first
    | (go_at_call 19; refine (HWT.out _ rfl).mono ?_; rintro e w5 ⟨⟨v5, rfl⟩, hw5, hf5⟩)
    | fail)
  obtain ⟨⟨tv, hblk, hown⟩, _, _⟩ := hw5
  obtain ⟨ta, tc, rfl⟩ := own_form hown
  have k1 : w5.cell? ⟨w2.heap.size, 1, none⟩ = some (.slice ta (ttT ts).length tc) := by rw [cell_of_row _ _ _ _ _ _ hblk]; rfl
  have HOW := hide (own_base hown (show w.heap.size ≤ w2.heap.size + 1 by omega))
  have HB5 := hide ((HB2.out.trans ((bel_alloc (Below.refl w2.heap.size w2) _).mono (Nat.le_of_lt hz2))).trans (hf5.bel.mono (Nat.le_of_lt hz2)))
  clear hblk hown hf5
  by_cases hbig : 400000 < (ttT ts).length
  · have hbig' : (400000 : Int) < ((ttT ts).length : Int) := by omega
    rw [if_pos hbig, decide_eq_false (show ¬ ¬ 400000 < (ttT ts).length by omega)]
    clear hbig
    go_wp2_with fail
    refine bodyPost_ret (v := .tuple #[.slice none 0 0, .bool false]) (by simp [results, Tryz.results7, go_sem]) rfl ⟨_, rfl, World.ownsRow_nil _ _ _ _, HB5.out⟩
  · have hbig' : ¬ (400000 : Int) < ((ttT ts).length : Int) := by omega
    rw [if_neg hbig, decide_eq_true (show ¬ 400000 < (ttT ts).length by omega)]
    clear hbig
    go_wp2_with fail
    refine bodyPost_ret (v := .tuple #[.slice ta (ttT ts).length tc, .bool true]) (by simp [results, Tryz.results7, go_sem]) rfl ⟨_, (by rw [decide_eq_true (show (ttT ts).length ≤ 400000 by omega)]), HOW.out, HB5.out⟩
end Go.Proofs.YtcagcfhnbphggaaGreatDoor

/- The specification's TermText. -/
namespace Go.Proofs.YtcagcfhnbphggaaGreatDoor
open Go.ChangeShapes Go.WideShapes Go.ChangeAt Go.RowKit

theorem sp_step {w1 : World} {Q : Nat → Prop} {pt : Nat → Nat} {ts : List Td} (C : SCx w1 Q pt ts) (f : Nat) (hf : f ≤ 20001) (p : Nat) (hp : p < ts.length) (ih : ∀ c, c < p → SpAt w1 pt ts f c) : SpAt w1 pt ts (f + 1) p := by
  intro bs v w hb1 hown hl
  have e : ts.getD p ⟨0, 0, 0, ⟨#[]⟩, [], []⟩ = ts[p] := by rw [List.getD_eq_getElem?_getD, List.getElem?_eq_getElem hp]; rfl
  by_cases hbig : 400000 < bs.length
  · rw [show wrT ts (f + 1) p bs = bs by unfold wrT; rw [if_pos hbig]]
    exact sp_big bs v w hown hbig
  rw [show wrT ts (f + 1) p bs = nodeT ts[p] (wrT ts f) bs by conv => lhs; unfold wrT
                                                              rw [if_neg hbig, e]]
  have hn := C.ok p hp
  have hfn := C.fst p hp hp
  have hkk := hn.kind
  have hl4 : bs.length ≤ 400000 := by omega
  unfold nodeT
  rcases (show ts[p].k = 1 ∨ ts[p].k = 9 ∨ ts[p].k = 2 ∨ ts[p].k = 3 ∨ (4 ≤ ts[p].k ∧ ts[p].k ≤ 8) by omega) with hk | hk | hk | hk | hk
  · rw [if_pos hk]
    exact sp_num hfn hn 35 (.inl ⟨hk, rfl⟩) bs v w hb1 hown hl4
  · rw [if_neg (by rw [hk]; decide), if_pos hk]
    exact sp_num hfn hn 63 (.inr ⟨hk, rfl⟩) bs v w hb1 hown hl4
  · rw [if_neg (by rw [hk]; decide), if_neg (by rw [hk]; decide), if_pos hk]
    exact sp_sort hfn hn hk bs v w hb1 hown hl4
  · rw [if_neg (by rw [hk]; decide), if_neg (by rw [hk]; decide), if_neg (by rw [hk]; decide), if_pos hk]
    exact sp_const hfn hn hk bs v w hb1 hown hl4
  · rw [if_neg (by omega), if_neg (by omega), if_neg (by omega), if_neg (by omega)]
    exact sp_brk C.ok hf hfn hn hk (fun c hc => ih _ (by have := C.kin p hp c hc; omega)) bs v w hb1 hown hl4
theorem sp_all {w1 : World} {Q : Nat → Prop} {pt : Nat → Nat} {ts : List Td} (C : SCx w1 Q pt ts) : ∀ f p, f ≤ 20001 → p < ts.length → p < f → SpAt w1 pt ts f p
  | 0, p, _, _, h => by omega
  | f + 1, p, hf, hp, h => sp_step C f (by omega) p hp (fun c hc => sp_all C f c (by omega) (by omega) (by omega))
theorem none_any (q : Option Addr) (w : World) : Calls Tryz.prog 15 #[.pointer q] w fun e w' => e = .returned (.bool q.isNone) ∧ w' = w := by
  cases q with
  | none =>
    go_enter Tryz.func15, Tryz.ntmps15
    go_wp2
    go_ret
    exact ⟨rfl, rfl⟩
  | some a =>
    go_enter Tryz.func15, Tryz.ntmps15
    go_wp2
    go_ret
    exact ⟨rfl, rfl⟩
theorem lit_own (base : Nat) (w : World) (hb : base ≤ w.heap.size) : (w.alloc (.cells #[] 5)).ownsRow base 5 1 (.slice (some ⟨w.heap.size, 0, none⟩) 0 0) 0 (bC []) :=
  World.ownsRow_lit (base := base) (e := 5) (size := 1) w #[] 0 hb (by unfold maxLen; omega) rfl
set_option maxRecDepth 20000 in
set_option maxHeartbeats 4000000 in
theorem specTt_bad (v : Value) (ts : List Td) (w : World) (hns : TNodesAt w v ts) (hsz : ∀ td ∈ ts, TLens td) (hlv : ∀ td ∈ ts, td.lv.length ≤ 1048576) (hb : termB ts = false) :
    Calls Tryz.prog 5 #[.agg #[v]] w (TtOut [] false w) := by
  have HN := hide hns
  obtain ⟨na, nc, rfl, hnl, hnm, _⟩ := hns
  have HT := hide (fun W (hW : Below w.heap.size w W) => l3TreeF_any _ ts W (HN.out.keep hW) hsz hlv)
  rw [hb] at HT
  clear hb
  go_enter Tryz.func5, Tryz.ntmps5
  go_wp2_with (first
    | (go_at_call 14; refine (HT.out _ (bel_alloc (Below.refl _ _) _)).mono ?_; rintro e w2 ⟨h2, hb2⟩; obtain ⟨_, rfl⟩ : _ ∧ e = .returned (.pointer none) := h2.resolve_right (by rintro ⟨h, _⟩; cases h); have HB2 := hide (bel_trans (bel_alloc (Below.refl _ _) _) hb2); clear hb2 h2)
    | (go_at_call 15; refine (none_any _ _).mono ?_; rintro e w3 ⟨rfl, hw3⟩; rw [hw3]; clear hw3 w3)
    | fail)
  refine bodyPost_ret (v := .tuple #[.slice (some ⟨w2.heap.size, 0, none⟩) 0 0, .bool false]) (by simp [results, Tryz.results5, go_sem]) rfl ⟨_, rfl, lit_own _ _ HB2.out.size, HB2.out.alloc HB2.out.size _⟩
set_option maxRecDepth 20000 in
set_option maxHeartbeats 4000000 in
theorem specTt_ok (v : Value) (ts : List Td) (w : World) (C : Ctx w v ts) (hb : termB ts = true) :
    Calls Tryz.prog 5 #[.agg #[v]] w (TtOut (if 400000 < (ttT ts).length then [] else ttT ts) (decide (¬ 400000 < (ttT ts).length)) w) := by
  have HN := hide C.nodes
  have hp := (term_pos hb).1
  obtain ⟨na, nc, rfl, hnl, hnm, _⟩ := C.nodes
  have hlv : ∀ td ∈ ts, td.lv.length ≤ 1048576 := by
    intro td hm
    obtain ⟨i, hi, rfl⟩ := List.getElem_of_mem hm
    have := (C.ok i hi).lvs
    omega
  have HT := hide (fun W (hW : Below w.heap.size w W) => l3TreeF_any _ ts W (HN.out.keep hW) C.lens hlv)
  rw [hb] at HT
  have HC := hide C
  clear hb
  go_enter Tryz.func5, Tryz.ntmps5
  go_upto_region 2 with (first
    | (go_at_call 14; refine (HT.out _ (bel_alloc (Below.refl _ _) _)).mono ?_; rintro e w2 ⟨h2, hb2⟩; obtain ⟨_, _, pt, Q, rfl, hfo, hpt, _⟩ := h2.resolve_left (by rintro ⟨h, _⟩; cases h))
    | fail)
  have HB2 := hide (bel_trans (bel_alloc (Below.refl _ _) _) hb2)
  have hs2 := HB2.out.size
  have HSP : Hid (∀ (bs : List UInt8) (v : Value) (w : World), Below w2.heap.size w2 w → w.ownsRow w2.heap.size 5 1 v bs.length (bC bs) → bs.length ≤ 600000 →
      Calls Tryz.prog 16 #[.pointer (some ⟨pt (ts.length - 1), 0, none⟩), v] w (SpOut w2.heap.size (wrT ts ts.length (ts.length - 1) bs) w)) :=
    sp_all ⟨hfo, HC.out.ok, HC.out.kin, HC.out.len⟩ ts.length (ts.length - 1) (by have := HC.out.len; omega) (by omega) (by omega)
  clear h2 hb2 hfo hpt
  go_upto_region 5 with (first
    | (go_at_call 15; refine (none_any _ _).mono ?_; rintro e w3 ⟨rfl, hw3⟩; rw [hw3]; clear hw3 w3)
    | (go_at_call 16; refine (HSP.out [] _ _ (bel_alloc (Below.refl _ _) _) (lit_own _ _ (Nat.le_refl _)) (by simp)).mono ?_; rintro e w4 ⟨v4, rfl, ho4, hb4⟩)
    | fail)
  rw [show wrT ts ts.length (ts.length - 1) [] = ttT ts from rfl] at ho4
  obtain ⟨ta, tc, rfl⟩ := own_form ho4
  have HOW := hide (own_base ho4 hs2)
  have HB5 := hide (HB2.out.trans (((bel_alloc (Below.refl w2.heap.size w2) _).trans hb4).mono hs2))
  have hs5 := HB5.out.size
  clear ho4 hb4
  by_cases hbig : 400000 < (ttT ts).length
  · have hbig' : (400000 : Int) < ((ttT ts).length : Int) := by omega
    rw [if_pos hbig, decide_eq_false (show ¬ ¬ 400000 < (ttT ts).length by omega)]
    clear hbig
    go_wp2_with fail
    refine bodyPost_ret (v := .tuple #[.slice (some ⟨w4.heap.size, 0, none⟩) 0 0, .bool false]) (by simp [results, Tryz.results5, go_sem]) rfl ⟨_, rfl, lit_own _ _ hs5, HB5.out.alloc hs5 _⟩
  · have hbig' : ¬ (400000 : Int) < ((ttT ts).length : Int) := by omega
    rw [if_neg hbig, decide_eq_true (show ¬ 400000 < (ttT ts).length by omega)]
    clear hbig
    go_wp2_with fail
    refine bodyPost_ret (v := .tuple #[.slice ta (ttT ts).length tc, .bool true]) (by simp [results, Tryz.results5, go_sem]) rfl ⟨_, (by rw [decide_eq_true (show (ttT ts).length ≤ 400000 by omega)]), HOW.out, HB5.out⟩
end Go.Proofs.YtcagcfhnbphggaaGreatDoor
