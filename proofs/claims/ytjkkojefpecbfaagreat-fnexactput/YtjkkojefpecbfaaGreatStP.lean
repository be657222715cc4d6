/- What the specification's l1Fits answers at a tree: at most 64 nodes, at most 6 parameters. For FnExactLevelPut. -/
import Derived.Test.YtjkkojefpecbfaaGreatSpec
import Derived.Test.YtjkkojefpecbfaaGreatCut
import Derived.Test.YtjkkojefpecbfaaGreatStA
import Derived.Test.YtjkkojefpecbfaaGreatTImpl
namespace Go.Proofs.YtjkkojefpecbfaaGreat
open Go.ChangeShapes Go.WideShapes Go.ChangeAt Go.RowKit

theorem Tr.sz_cnt : ∀ t : Tr, t.sz = min 1000 t.cnt
  | .leaf _ _ => by simp [Tr.sz, Tr.cnt]
  | .one _ _ a => by simp only [Tr.sz, Tr.cnt, Tr.sz_cnt a]; omega
  | .two _ _ a b => by simp only [Tr.sz, Tr.cnt, Tr.sz_cnt a, Tr.sz_cnt b]; omega
theorem TreeAt.size {B : Nat} {w : World} {g : Nat} : ∀ {t : Tr}, TreeAt B w g t → w.cell? ⟨g, 4, none⟩ = some (.int .i64 t.sz)
  | .leaf k s, h => by rw [cell_of_row w g 4 _ _ _ h.2]; rfl
  | .one k s a, h => by obtain ⟨_, pa, h2, _⟩ := h; rw [cell_of_row w g 4 _ _ _ h2]; rfl
  | .two k s a b, h => by obtain ⟨_, pa, pb, h2, _⟩ := h; rw [cell_of_row w g 4 _ _ _ h2]; rfl
def fitsB (t : Tr) : Bool := decide (t.cnt ≤ 64 ∧ (t.names []).length ≤ 6)

set_option maxRecDepth 10000 in
set_option maxHeartbeats 2000000 in
theorem l1Fits_any (t : Tr) (g : Nat) (w : World) (h : TreeAt w.heap.size w g t) :
    Calls Tryz.prog 141 #[.pointer (some ⟨g, 0, none⟩)] w fun e w' => e = .returned (.bool (fitsB t)) ∧ Below w.heap.size w w' := by
  have HT := hide h
  have c4 := h.size
  have hsz := Tr.sz_cnt t
  have hst := World.ownsRow_lit (base := w.heap.size) (e := 9) (size := 1) w #[] 0 (Nat.le_refl _) (by unfold maxLen; omega) rfl
  have HST := hide hst
  clear hst h
  by_cases hc : t.cnt ≤ 64
  · have hle : (t.sz : Int) ≤ 64 := by omega
    have HF : Hid (decide (((t.names []).length : Int) ≤ 6) = fitsB t) := by
      show _ = _
      unfold fitsB
      rw [decide_eq_decide]
      constructor
      · intro q; exact ⟨hc, by omega⟩
      · intro q; omega
    have HC := hide hc
    clear hc hsz
    go_enter Tryz.func141, Tryz.ntmps141
    go_wp2_with fail
    refine (l1Names_any t g _ _ [] w.heap.size (HT.out.keep (bel_alloc (Below.refl _ _) _)) HST.out (by simp) (by have := HC.out; simp; omega)).mono ?_
    rintro e w1 ⟨vn1, rfl, hown1, hb1⟩
    have hbel1 : Hid (Below w.heap.size w w1) := (bel_alloc (Below.refl w.heap.size w) _).trans hb1
    obtain ⟨na1, nc1, rfl⟩ := row_form hown1
    clear hown1 hb1 HST c4 hle
    go_wp2_with fail
    go_ret
    exact ⟨ret_bool HF.out, hbel1.out⟩
  · have hle : ¬ (t.sz : Int) ≤ 64 := by omega
    have HF : Hid (false = fitsB t) := by
      show _ = _
      unfold fitsB
      rw [eq_comm, decide_eq_false_iff_not]
      exact fun q => hc q.1
    clear hc hsz
    go_enter Tryz.func141, Tryz.ntmps141
    go_wp2_with fail
    go_ret
    exact ⟨ret_bool HF.out, Below.refl _ _⟩
end Go.Proofs.YtjkkojefpecbfaaGreat

/- What the specification's small functions on terms answer: kids of a kind, binders, none, too great; and l1Trees, which reads levels. -/
namespace Go.Proofs.YtjkkojefpecbfaaGreat
open Go.ChangeShapes Go.WideShapes Go.ChangeAt Go.RowKit

set_option maxHeartbeats 1000000 in
theorem l3KidsOf_any (k : Int) (w : World) : Calls Tryz.prog 90 #[.int .i64 k] w fun e w' => e = .returned (.int .i64 (tkidsN k)) ∧ Below w.heap.size w w' := by
  rcases kind_cases k with rfl | rfl | rfl | rfl | rfl | rfl | rfl | rfl | rfl | h
  · go_enter Tryz.func90, Tryz.ntmps90; go_wp2; go_ret; exact ⟨rfl, bel_alloc (Below.refl _ _) _⟩
  · go_enter Tryz.func90, Tryz.ntmps90; go_wp2; go_ret; exact ⟨rfl, bel_alloc (Below.refl _ _) _⟩
  · go_enter Tryz.func90, Tryz.ntmps90; go_wp2; go_ret; exact ⟨rfl, bel_alloc (Below.refl _ _) _⟩
  · go_enter Tryz.func90, Tryz.ntmps90; go_wp2; go_ret; exact ⟨rfl, bel_alloc (Below.refl _ _) _⟩
  · go_enter Tryz.func90, Tryz.ntmps90; go_wp2; go_ret; exact ⟨rfl, bel_alloc (Below.refl _ _) _⟩
  · go_enter Tryz.func90, Tryz.ntmps90; go_wp2; go_ret; exact ⟨rfl, bel_alloc (Below.refl _ _) _⟩
  · go_enter Tryz.func90, Tryz.ntmps90; go_wp2; go_ret; exact ⟨rfl, bel_alloc (Below.refl _ _) _⟩
  · go_enter Tryz.func90, Tryz.ntmps90; go_wp2; go_ret; exact ⟨rfl, bel_alloc (Below.refl _ _) _⟩
  · go_enter Tryz.func90, Tryz.ntmps90; go_wp2; go_ret; exact ⟨rfl, bel_alloc (Below.refl _ _) _⟩
  have HK := hide (tkidsN_neg k h)
  by_cases h1 : k < 1
  · have d1 : decide (k < 1) = true := by simp [h1]
    go_enter Tryz.func90, Tryz.ntmps90; go_wp2_with fail; go_ret; exact ⟨ret_int HK.out.symm, Below.refl _ _⟩
  · have d1 : decide (k < 1) = false := by simp; omega
    have d2 : decide (9 < k) = true := by simp; omega
    go_enter Tryz.func90, Tryz.ntmps90; go_wp2_with fail; go_ret; exact ⟨ret_int HK.out.symm, Below.refl _ _⟩
set_option maxHeartbeats 1000000 in
theorem l3Binds_any (k : Int) (w : World) : Calls Tryz.prog 138 #[.int .i64 k] w fun e w' => e = .returned (.bool (bindsB k)) ∧ w' = w := by
  have HB : Hid (bindsB k = (decide (k = 5) || decide (k = 6) || decide (k = 7))) := rfl
  rw [HB.out]
  by_cases h5 : k = 5
  · subst h5; go_enter Tryz.func138, Tryz.ntmps138; go_wp2; go_ret; exact ⟨rfl, rfl⟩
  have e5 : (k == 5) = false := beq_eq_false_iff_ne.2 h5
  by_cases h6 : k = 6
  · subst h6; go_enter Tryz.func138, Tryz.ntmps138; go_wp2; go_ret; exact ⟨rfl, rfl⟩
  have e6 : (k == 6) = false := beq_eq_false_iff_ne.2 h6
  by_cases h7 : k = 7
  · subst h7; go_enter Tryz.func138, Tryz.ntmps138; go_wp2; go_ret; exact ⟨rfl, rfl⟩
  have e7 : (k == 7) = false := beq_eq_false_iff_ne.2 h7
  have HN : Hid ((decide (k = 5) || decide (k = 6) || decide (k = 7)) = false) := by show _ = _; simp [h5, h6, h7]
  rw [HN.out]
  clear h5 h6 h7
  go_enter Tryz.func138, Tryz.ntmps138; go_wp2; go_ret; exact ⟨rfl, rfl⟩
set_option maxHeartbeats 400000 in
theorem tnone_some (a : Addr) (w : World) : Calls Tryz.prog 48 #[.pointer (some a)] w fun e w' => e = .returned (.bool false) ∧ w' = w := by
  go_enter Tryz.func48, Tryz.ntmps48
  go_wp2
  go_ret
  exact ⟨rfl, rfl⟩
set_option maxHeartbeats 400000 in
theorem tnone_none (w : World) : Calls Tryz.prog 48 #[.pointer none] w fun e w' => e = .returned (.bool true) ∧ w' = w := by
  go_enter Tryz.func48, Tryz.ntmps48
  go_wp2
  go_ret
  exact ⟨rfl, rfl⟩
set_option maxHeartbeats 400000 in
theorem l3Great_any (g : Nat) (sz : Int) (w : World) (h : w.cell? ⟨g, 6, none⟩ = some (.int .i64 sz)) : Calls Tryz.prog 93 #[.pointer (some ⟨g, 0, none⟩)] w fun e w' => e = .returned (.bool (decide (20000 < sz))) ∧ w' = w := by
  go_enter Tryz.func93, Tryz.ntmps93
  go_wp2_with fail
  go_ret
  exact ⟨rfl, rfl⟩

/-- A row of pointers. -/
def PtrRow (w : World) (v : Value) (ps : List Nat) : Prop :=
  ∃ a cap, v = .slice a ps.length cap ∧ ps.length ≤ cap ∧ cap ≤ maxLen ∧ (0 < ps.length → ∃ b off, a = some ⟨b, off, none⟩ ∧ ∀ j (h : j < ps.length), w.cell? ⟨b, off + j, none⟩ = some (ptrV ps[j]))
theorem PtrRow.keep {w w' : World} (hb : Below w.heap.size w w') {v : Value} {ps : List Nat} (h : PtrRow w v ps) : PtrRow w' v ps := by
  obtain ⟨a, cap, hv, h1, h2, h3⟩ := h
  refine ⟨a, cap, hv, h1, h2, fun h0 => ?_⟩
  obtain ⟨b, off, ha, hc⟩ := h3 h0
  exact ⟨b, off, ha, fun j h => keep_cell hb (hc j h)⟩
theorem PtrRow.own {w : World} {base : Nat} {e : TypeId} {v : Value} {n : Nat} {ps : List Nat} (h : w.ownsRow base e 1 v n (ps.map ptrV)) (hn : n = ps.length) : PtrRow w v ps := by
  subst hn
  rcases h.2 with ⟨rfl, h0⟩ | ⟨g, cap, cur, rfl, _, hg, hnc, hcm, hcs, htake⟩
  · exact ⟨none, 0, by rw [h0], by omega, by unfold maxLen; omega, fun h => by omega⟩
  · refine ⟨_, _, rfl, hnc, hcm, fun _ => ⟨g, 0, rfl, fun j hj => ?_⟩⟩
    rw [Nat.zero_add, h.cellAt j (by omega), List.getElem?_map, List.getElem?_eq_getElem hj]; rfl
/-- Levels as trees, each one that fits. -/
def LevTrees (w : World) (ps : List Nat) (us : List Tr) : Prop := TreesAt w ps us ∧ ∀ u ∈ us, fitsB u = true
theorem TreesAt.keep {w w' : World} (hb : Below w.heap.size w w') {ps : List Nat} {us : List Tr} (h : TreesAt w ps us) : TreesAt w' ps us :=
  ⟨h.1, fun j h1 h2 => ((h.2 j h1 h2).keep hb).mono hb.size⟩
theorem LevTrees.keep {w w' : World} (hb : Below w.heap.size w w') {ps : List Nat} {us : List Tr} (h : LevTrees w ps us) : LevTrees w' ps us := ⟨h.1.keep hb, h.2⟩
end Go.Proofs.YtjkkojefpecbfaaGreat

/- Small functions over a node of the store: isBinder, parts, asBinder, bodyPlace, binds. -/
namespace Go.Proofs.YtjkkojefpecbfaaGreat
open Go.ChangeShapes Go.WideShapes Go.ChangeAt Go.RowKit

theorem isBinder_any (k : Int) (w : World) : Calls Tryz.prog 198 #[.int .i64 k] w fun e w' => e = .returned (.bool (bindsB k)) ∧ w' = w := by
  have HB : Hid (bindsB k = (k == 5 || k == 6 || k == 7)) := by
    show _ = _
    unfold bindsB
    by_cases h5 : k = 5
    · subst h5; rfl
    · by_cases h6 : k = 6
      · subst h6; rfl
      · by_cases h7 : k = 7
        · subst h7; rfl
        · simp [h5, h6, h7]
  by_cases h5 : k = 5
  · have q5 : (k == 5) = true := by simp [h5]
    rw [HB.out, q5]
    clear h5 HB
    go_enter Tryz.func198, Tryz.ntmps198
    go_wp2_with fail
    go_ret
    exact ⟨rfl, rfl⟩
  · have q5 : (k == 5) = false := by simp [h5]
    by_cases h6 : k = 6
    · have q6 : (k == 6) = true := by simp [h6]
      rw [HB.out, q5, q6]
      clear h5 h6 HB
      go_enter Tryz.func198, Tryz.ntmps198
      go_wp2_with fail
      go_ret
      exact ⟨rfl, rfl⟩
    · have q6 : (k == 6) = false := by simp [h6]
      rw [HB.out, q5, q6]
      clear h5 h6 HB
      go_enter Tryz.func198, Tryz.ntmps198
      go_wp2_with fail
      go_ret
      exact ⟨by simp, rfl⟩
theorem run_slice_arr (W : World) (b kn : Nat) (hk : kn ≤ 3) : (Instr.sliceAt 127 (.pointer (some ⟨b, 5, none⟩)) none (some (.int .i64 (kn : Int))) none).run Tryz.prog W = .ok (.slice (some ⟨b, 5, none⟩) kn 3) W := by
  rw [run_sliceAt_array_h W 127 ⟨b, 5, none⟩ (by kernel_rfl) .i64 _ (by omega) (by rw [show Tryz.prog.arrayLen 127 = 3 from by kernel_rfl]; omega)]
  simp [slicedAt, go_sem, Addr.add]

set_option maxRecDepth 20000 in
set_option maxHeartbeats 2000000 in
theorem parts_any (b : Nat) (k : Int) (w : World) (h : w.cell? ⟨b, 0, none⟩ = some (.int .i64 k)) (hk : 0 ≤ tkidsN k) (hk3 : tkidsN k ≤ 3) :
    Calls Tryz.prog 103 #[.pointer (some ⟨b, 0, none⟩)] w fun e w' => e = .returned (.slice (some ⟨b, 5, none⟩) (tkidsN k).toNat 3) ∧ Below w.heap.size w w' := by
  obtain ⟨kn, hkn⟩ : ∃ kn : Nat, tkidsN k = kn := ⟨(tkidsN k).toNat, by omega⟩
  have HT := hide (fun W => termKids_any k W)
  rw [hkn] at HT hk3 ⊢
  have hkn3 : kn ≤ 3 := by omega
  have hrs := fun W => run_slice_arr W b kn hkn3
  have hbl := lt_cell h
  have hc : ∀ p : Bel w.heap.size w, p.w'.cell? ⟨b, 0, none⟩ = some (.int .i64 k) := fun p => p.cell hbl h
  haveI := bel_ne w.heap.size w
  clear hkn hk hk3
  go_enter Tryz.func103, Tryz.ntmps103
  go_wp2_with fail
  refine wp_region_bel w.heap.size (by kernel_rfl) (by kernel_rfl) ?_
  repeat (quiet_step (first
    | (go_at_call 145; exact calls_bel_same (HT.out _))))
  refine wpQuiet_nil ?_
  intro _ hw'
  obtain ⟨p, hw2⟩ := hw'
  subst hw2
  go_wp2_with fail
  go_ret
  exact ⟨rfl, p.h⟩

set_option maxRecDepth 20000 in
set_option maxHeartbeats 2000000 in
theorem asBinder_any (b : Nat) (k : Int) (w : World) (h : w.cell? ⟨b, 0, none⟩ = some (.int .i64 k)) :
    Calls Tryz.prog 178 #[.pointer (some ⟨b, 0, none⟩)] w fun e w' => e = .returned (.tuple #[.agg #[.pointer (some ⟨b, 0, none⟩)], .bool (bindsB k)]) ∧ Below w.heap.size w w' := by
  have HT := hide (fun W => isBinder_any k W)
  have hbl := lt_cell h
  go_enter Tryz.func178, Tryz.ntmps178
  go_wp2_with (go_at_call 198; refine (HT.out _).mono ?_; rintro e w1 ⟨rfl, hw⟩; have hw := hw.symm; subst hw)
  refine bodyPost_ret (v := .tuple #[.agg #[.pointer (some ⟨b, 0, none⟩)], .bool (bindsB k)]) (by simp [results, Tryz.results178, go_sem]) rfl ⟨rfl, ?_⟩
  exact bel_alloc (Below.refl _ _) _
set_option maxRecDepth 20000 in
set_option maxHeartbeats 2000000 in
theorem bodyPlace_any (b : Nat) (k : Int) (w : World) (h : w.cell? ⟨b, 0, none⟩ = some (.int .i64 k)) (hk : 0 ≤ tkidsN k) (hk3 : tkidsN k ≤ 3) :
    Calls Tryz.prog 179 #[.agg #[.pointer (some ⟨b, 0, none⟩)]] w fun e w' => e = .returned (.int .i64 (tkidsN k - 1)) ∧ Below w.heap.size w w' := by
  have hbl := lt_cell h
  have HP := hide (parts_any b k (w.alloc (.cells #[.pointer (some ⟨b, 0, none⟩)] 230)) (keep_cell (bel_alloc (Below.refl w.heap.size w) _) h) hk hk3)
  have HB := hide (bel_alloc (Below.refl w.heap.size w) (.cells #[.pointer (some ⟨b, 0, none⟩)] 230))
  clear h
  obtain ⟨kn, hkn⟩ : ∃ kn : Nat, tkidsN k = kn := ⟨(tkidsN k).toNat, by omega⟩
  rw [hkn] at HP ⊢
  have hle : kn ≤ 3 := by omega
  rw [show ((kn : Int)).toNat = kn from by omega] at HP
  clear hkn hk hk3
  go_enter Tryz.func179, Tryz.ntmps179
  go_wp2_with fail
  refine HP.out.mono ?_
  rintro e w1 ⟨rfl, hb1⟩
  have HB1 := hide (bel_trans HB.out hb1)
  clear hb1 HP
  go_wp2_with fail
  go_ret
  exact ⟨by go_num, HB1.out⟩
/-- How many variables of its own a node has in a kid. -/
def bindN (k : Int) (i : Nat) : Int := if bindsB k = true ∧ (i : Int) = tkidsN k - 1 then 1 else 0
set_option maxRecDepth 20000 in
set_option maxHeartbeats 4000000 in
theorem binds_any (b : Nat) (k : Int) (i : Nat) (w : World) (h : w.cell? ⟨b, 0, none⟩ = some (.int .i64 k)) (hk : 0 ≤ tkidsN k) (hk3 : tkidsN k ≤ 3) :
    Calls Tryz.prog 136 #[.pointer (some ⟨b, 0, none⟩), .int .i64 i] w fun e w' => e = .returned (.int .i64 (bindN k i)) ∧ Below w.heap.size w w' := by
  have HA := hide (asBinder_any b k w h)
  have HBP := hide (fun W hb => bodyPlace_any b k W (keep_cell (w' := W) hb h) hk hk3)
  unfold bindN
  clear h
  cases hb : bindsB k
  · rw [hb] at HA
    rw [if_neg (by simp)]
    go_enter Tryz.func136, Tryz.ntmps136
    go_wp2_with fail
    refine HA.out.mono ?_
    rintro e w1 ⟨rfl, hb1⟩
    have HB1 := hide (bel_trans hb1 (bel_alloc (Below.refl w1.heap.size w1) (.cells #[.pointer (some ⟨b, 0, none⟩)] 230)))
    clear hb1
    go_wp2_with fail
    go_ret
    exact ⟨rfl, HB1.out⟩
  · rw [hb] at HA
    by_cases he : (i : Int) = tkidsN k - 1
    · rw [if_pos ⟨rfl, he⟩]
      have qe : ((i : Int) == tkidsN k - 1) = true := by simp [he]
      generalize tkidsN k - 1 = bp at *
      clear he
      go_enter Tryz.func136, Tryz.ntmps136
      go_wp2_with fail
      refine HA.out.mono ?_
      rintro e w1 ⟨rfl, hb1⟩
      have HB1 := hide (bel_trans hb1 (bel_alloc (Below.refl w1.heap.size w1) (.cells #[.pointer (some ⟨b, 0, none⟩)] 230)))
      have HC := hide (HBP.out _ HB1.out)
      clear hb1
      go_wp2_with (go_at_call 179; refine HC.out.mono ?_; rintro e w2 ⟨rfl, hb2⟩)
      have HB2 := hide (bel_trans HB1.out hb2)
      go_ret
      exact ⟨rfl, HB2.out⟩
    · rw [if_neg (fun h => he h.2)]
      have qe : ((i : Int) == tkidsN k - 1) = false := by simp [he]
      generalize tkidsN k - 1 = bp at *
      clear he
      go_enter Tryz.func136, Tryz.ntmps136
      go_wp2_with fail
      refine HA.out.mono ?_
      rintro e w1 ⟨rfl, hb1⟩
      have HB1 := hide (bel_trans hb1 (bel_alloc (Below.refl w1.heap.size w1) (.cells #[.pointer (some ⟨b, 0, none⟩)] 230)))
      have HC := hide (HBP.out _ HB1.out)
      clear hb1
      go_wp2_with (go_at_call 179; refine HC.out.mono ?_; rintro e w2 ⟨rfl, hb2⟩)
      have HB2 := hide (bel_trans HB1.out hb2)
      go_ret
      exact ⟨rfl, HB2.out⟩
end Go.Proofs.YtjkkojefpecbfaaGreat

/- Whether a level, or one of several, has a parameter: what slices.ContainsFunc answers at levelHasParam. -/
namespace Go.Proofs.YtjkkojefpecbfaaGreat
open Go.ChangeShapes Go.WideShapes Go.ChangeAt Go.RowKit

def parN (ns : List Nd) : Bool := ns.any (fun nd => nd.k == 5)
def parL (ls : List (List Nd)) : Bool := ls.any parN
theorem any_take {α : Type} (f : α → Bool) (l : List α) (j : Nat) (h : j < l.length) (h1 : (l.take j).any f = false) : (l.take (j + 1)).any f = f l[j] := by
  rw [List.take_succ_eq_append_getElem h, List.any_append, h1]; simp
theorem any_of {α : Type} (f : α → Bool) (l : List α) (j : Nat) (h : j < l.length) (h1 : f l[j] = true) : l.any f = true := List.any_eq_true.2 ⟨l[j], List.getElem_mem h, h1⟩

set_option maxHeartbeats 1000000 in
theorem par1_any (nd : Nd) (kv : Value) (w : World) (hk : ∃ a n c, kv = .slice a n c) : Calls Tryz.prog 204 #[.agg #[.int .i64 nd.k, .string nd.s, kv]] w fun e w' => e = .returned (.bool (nd.k == 5)) ∧ Below w.heap.size w w' := by
  obtain ⟨a, n, c, rfl⟩ := hk
  have HB := hide (bel_alloc (Below.refl w.heap.size w) (.cells #[.int .i64 nd.k, .string nd.s, .slice a n c] 174))
  go_enter Tryz.func204, Tryz.ntmps204
  go_wp2_with fail
  go_ret
  exact ⟨rfl, HB.out⟩
set_option maxHeartbeats 2000000 in
theorem idxN_any (v : Value) (ns : List Nd) (w : World) (hv : NodesAt w v ns) (hl : ns.length ≤ 1048576) :
    Calls Tryz.prog 208 #[v, .func (.func 204) #[] #[]] w fun e w' => (∃ r : Int, e = .returned (.int .i64 r) ∧ decide (0 ≤ r) = parN ns) ∧ Below w.heap.size w w' := by
  obtain ⟨a, cap, rfl, hlc, hcm, hc⟩ := hv
  have HC := hide hc
  unfold maxLen at hcm
  clear hc
  go_enter Tryz.func208, Tryz.ntmps208
  go_wp2_with fail
  go_loopw [8] (fun i wr => ∃ (j : Nat), j ≤ ns.length ∧ i = .int .i64 j ∧ Hid ((ns.take j).any (fun nd => nd.k == 5) = false) ∧ Hid (Below w.heap.size w wr)) (fun i _ => ns.length - (intOf i).toNat)
  case atStart => exact ⟨0, by omega, rfl, by show _ = _; simp, Below.refl _ _⟩
  case round =>
    obtain ⟨j, hj, rfl, HN, HB⟩ := hrel
    by_cases hlt : j < ns.length
    · have hlt' : (j : Int) < ns.length := by omega
      obtain ⟨b, off, rfl, hcell⟩ := HC.out (by omega)
      obtain ⟨d1, d2, kv, d3, hkv⟩ := hcell j hlt
      have d1 := keep_cell HB.out d1
      have d2 := keep_cell HB.out d2
      have d3 := keep_cell HB.out d3
      have HT := hide (any_take (fun nd => nd.k == 5) ns j hlt HN.out)
      have HO := hide (any_of (fun nd => nd.k == 5) ns j hlt)
      obtain ⟨ka, kc, rfl, _, _, _⟩ := hkv
      have HP := hide (par1_any ns[j] (.slice ka ns[j].kids.length kc) wr ⟨_, _, _, rfl⟩)
      have HQ := hide (show j + 1 ≤ ns.length from hlt)
      clear hcell
      generalize ns[j] = nd at *
      cases hk : (nd.k == 5)
      · rw [hk] at HP
        have HT2 : Hid ((ns.take (j + 1)).any (fun nd => nd.k == 5) = false) := by show _ = _; rw [HT.out]; exact hk
        go_wp2_with fail
        refine HP.out.mono ?_
        rintro e w1 ⟨rfl, hb1⟩
        have HB1 := hide (bel_trans HB.out hb1)
        clear hb1
        go_wp2_with fail
        go_roundw
        case rel => exact ⟨j + 1, HQ.out, by go_num, HT2, HB1⟩
        case measure => have := HQ.out; simp [intOf]; omega
      · rw [hk] at HP
        have HR : Hid (parN ns = true) := HO.out hk
        go_wp2_with fail
        refine HP.out.mono ?_
        rintro e w1 ⟨rfl, hb1⟩
        have HB1 := hide (bel_trans HB.out hb1)
        clear hb1
        go_wp2_with fail
        go_ret
        exact ⟨⟨_, rfl, by rw [HR.out]; simp⟩, HB1.out⟩
    · have hlt' : ¬ (j : Int) < ns.length := by omega
      have HR : Hid (parN ns = false) := by have h := HN.out; rw [List.take_of_length_le (by omega)] at h; exact h
      go_wp2_with fail
      go_ret
      exact ⟨⟨_, rfl, by rw [HR.out]; decide⟩, HB.out⟩
set_option maxHeartbeats 1000000 in
theorem conN_any (v : Value) (ns : List Nd) (w : World) (hv : NodesAt w v ns) (hl : ns.length ≤ 1048576) :
    Calls Tryz.prog 203 #[v, .func (.func 204) #[] #[]] w fun e w' => e = .returned (.bool (parN ns)) ∧ Below w.heap.size w w' := by
  have HI := hide (idxN_any v ns w hv hl)
  obtain ⟨a, cap, rfl, _, _, _⟩ := hv
  go_enter Tryz.func203, Tryz.ntmps203
  go_wp2_with fail
  refine HI.out.mono ?_
  rintro e w1 ⟨⟨r, rfl, hr⟩, hb1⟩
  have HR := hide hr
  clear hr
  go_wp2_with fail
  go_ret
  exact ⟨by rw [HR.out]; rfl, hb1⟩
set_option maxHeartbeats 1000000 in
theorem levPar_any (v : Value) (ns : List Nd) (w : World) (hv : NodesAt w v ns) (hl : ns.length ≤ 1048576) :
    Calls Tryz.prog 191 #[.agg #[v]] w fun e w' => e = .returned (.bool (parN ns)) ∧ Below w.heap.size w w' := by
  have HB := hide (bel_alloc (Below.refl w.heap.size w) (.cells #[v] 111))
  have HI := hide (conN_any v ns (w.alloc (.cells #[v] 111)) (hv.keep HB.out) hl)
  obtain ⟨a, cap, rfl, _, _, _⟩ := hv
  go_enter Tryz.func191, Tryz.ntmps191
  go_wp2_with fail
  refine HI.out.mono ?_
  rintro e w1 ⟨rfl, hb1⟩
  have HB1 := hide (bel_trans HB.out hb1)
  clear hb1
  go_wp2_with fail
  go_ret
  exact ⟨rfl, HB1.out⟩
set_option maxHeartbeats 2000000 in
theorem idxL_any (v : Value) (ls : List (List Nd)) (w : World) (hv : LevsAt w v ls) (hl : ls.length ≤ 1048576) (hll : ∀ l ∈ ls, l.length ≤ 1048576) :
    Calls Tryz.prog 202 #[v, .func (.func 191) #[] #[]] w fun e w' => (∃ r : Int, e = .returned (.int .i64 r) ∧ decide (0 ≤ r) = parL ls) ∧ Below w.heap.size w w' := by
  obtain ⟨a, cap, rfl, hlc, hcm, hc⟩ := hv
  have HC := hide hc
  have HLL := hide hll
  unfold maxLen at hcm
  clear hc hll
  go_enter Tryz.func202, Tryz.ntmps202
  go_wp2_with fail
  go_loopw [8] (fun i wr => ∃ (j : Nat), j ≤ ls.length ∧ i = .int .i64 j ∧ Hid ((ls.take j).any parN = false) ∧ Hid (Below w.heap.size w wr)) (fun i _ => ls.length - (intOf i).toNat)
  case atStart => exact ⟨0, by omega, rfl, by show _ = _; simp, Below.refl _ _⟩
  case round =>
    obtain ⟨j, hj, rfl, HN, HB⟩ := hrel
    by_cases hlt : j < ls.length
    · have hlt' : (j : Int) < ls.length := by omega
      obtain ⟨b, off, rfl, hcell⟩ := HC.out (by omega)
      obtain ⟨u, d1, hu⟩ := hcell j hlt
      have d1 := keep_cell HB.out d1
      have HT := hide (any_take parN ls j hlt HN.out)
      have HO := hide (any_of parN ls j hlt)
      have HP := hide (levPar_any u ls[j] wr (hu.keep HB.out) (HLL.out _ (List.getElem_mem hlt)))
      obtain ⟨ka, kc, rfl, _, _, _⟩ := hu
      have HQ := hide (show j + 1 ≤ ls.length from hlt)
      clear hcell
      generalize ls[j] = l at *
      cases hk : parN l
      · rw [hk] at HP
        have HT2 : Hid ((ls.take (j + 1)).any parN = false) := by show _ = _; rw [HT.out]; exact hk
        go_wp2_with fail
        refine HP.out.mono ?_
        rintro e w1 ⟨rfl, hb1⟩
        have HB1 := hide (bel_trans HB.out hb1)
        clear hb1
        go_wp2_with fail
        go_roundw
        case rel => exact ⟨j + 1, HQ.out, by go_num, HT2, HB1⟩
        case measure => have := HQ.out; simp [intOf]; omega
      · rw [hk] at HP
        have HR : Hid (parL ls = true) := HO.out hk
        go_wp2_with fail
        refine HP.out.mono ?_
        rintro e w1 ⟨rfl, hb1⟩
        have HB1 := hide (bel_trans HB.out hb1)
        clear hb1
        go_wp2_with fail
        go_ret
        exact ⟨⟨_, rfl, by rw [HR.out]; simp⟩, HB1.out⟩
    · have hlt' : ¬ (j : Int) < ls.length := by omega
      have HR : Hid (parL ls = false) := by have h := HN.out; rw [List.take_of_length_le (by omega)] at h; exact h
      go_wp2_with fail
      go_ret
      exact ⟨⟨_, rfl, by rw [HR.out]; decide⟩, HB.out⟩
set_option maxHeartbeats 1000000 in
theorem conL_any (v : Value) (ls : List (List Nd)) (w : World) (hv : LevsAt w v ls) (hl : ls.length ≤ 1048576) (hll : ∀ l ∈ ls, l.length ≤ 1048576) :
    Calls Tryz.prog 190 #[v, .func (.func 191) #[] #[]] w fun e w' => e = .returned (.bool (parL ls)) ∧ Below w.heap.size w w' := by
  have HI := hide (idxL_any v ls w hv hl hll)
  obtain ⟨a, cap, rfl, _, _, _⟩ := hv
  go_enter Tryz.func190, Tryz.ntmps190
  go_wp2_with fail
  refine HI.out.mono ?_
  rintro e w1 ⟨⟨r, rfl, hr⟩, hb1⟩
  have HR := hide hr
  clear hr
  go_wp2_with fail
  go_ret
  exact ⟨by rw [HR.out]; rfl, hb1⟩
end Go.Proofs.YtjkkojefpecbfaaGreat
