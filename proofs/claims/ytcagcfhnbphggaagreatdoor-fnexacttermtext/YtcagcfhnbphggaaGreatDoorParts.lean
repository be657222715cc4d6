/- What the specification's l1Fits answers at a tree: at most 64 nodes, at most 6 parameters. For FnExactLevelPut. -/
import Derived.Test.YtcagcfhnbphggaaGreatDoorSpec
import Derived.Test.YtcagcfhnbphggaaGreatDoorTree
import Derived.Deep.QuietTactic
import Derived.BigQuiet
import Derived.Test.YtcagcfhnbphggaaGreatDoorTo
import Derived.Lib.Strings
import Derived.Lib.Bytealg
namespace Go.Proofs.YtcagcfhnbphggaaGreatDoor
open Go.ChangeShapes Go.WideShapes Go.ChangeAt Go.RowKit

theorem Tr.sz_cnt : ∀ t : Tr, t.sz = min 1000 t.cnt
  | .leaf _ _ => by simp [Tr.sz, Tr.cnt]
  | .one _ _ a => by simp only [Tr.sz, Tr.cnt, Tr.sz_cnt a]; omega
  | .two _ _ a b => by simp only [Tr.sz, Tr.cnt, Tr.sz_cnt a, Tr.sz_cnt b]; omega
theorem TreeAt.size {B : Nat} {w : World} {g : Nat} : ∀ {t : Tr}, TreeAt B w g t → w.cell? ⟨g, 4, none⟩ = some (.int .i64 t.sz)
  | .leaf k s, h => by rw [cell_of_row w g 4 _ _ _ h.2]; rfl
  | .one k s a, h => by obtain ⟨_, pa, h2, _⟩ := h; rw [cell_of_row w g 4 _ _ _ h2]; rfl
  | .two k s a b, h => by obtain ⟨_, pa, pb, h2, _⟩ := h; rw [cell_of_row w g 4 _ _ _ h2]; rfl
def fitsB (t : Tr) : Bool := decide (t.cnt ≤ 64 ∧ (t.names []).length ≤ 6)

set_option maxRecDepth 10000 in
set_option maxHeartbeats 2000000 in
theorem l1Fits_any (t : Tr) (g : Nat) (w : World) (h : TreeAt w.heap.size w g t) :
    Calls Tryz.prog 45 #[.pointer (some ⟨g, 0, none⟩)] w fun e w' => e = .returned (.bool (fitsB t)) ∧ Below w.heap.size w w' := by
  have HT := hide h
  have c4 := h.size
  have hsz := Tr.sz_cnt t
  have hst := World.ownsRow_lit (base := w.heap.size) (e := 9) (size := 1) w #[] 0 (Nat.le_refl _) (by unfold maxLen; omega) rfl
  have HST := hide hst
  clear hst h
  by_cases hc : t.cnt ≤ 64
  · have hle : (t.sz : Int) ≤ 64 := by omega
    have HF : Hid (decide (((t.names []).length : Int) ≤ 6) = fitsB t) := by
      show _ = _
      unfold fitsB
      rw [decide_eq_decide]
      constructor
      · intro q; exact ⟨hc, by omega⟩
      · intro q; omega
    have HC := hide hc
    clear hc hsz
    go_enter Tryz.func45, Tryz.ntmps45
    go_wp2_with fail
    refine (l1Names_any t g _ _ [] w.heap.size (HT.out.keep (bel_alloc (Below.refl _ _) _)) HST.out (by simp) (by have := HC.out; simp; omega)).mono ?_
    rintro e w1 ⟨vn1, rfl, hown1, hb1⟩
    have hbel1 : Hid (Below w.heap.size w w1) := (bel_alloc (Below.refl w.heap.size w) _).trans hb1
    obtain ⟨na1, nc1, rfl⟩ := row_form hown1
    clear hown1 hb1 HST c4 hle
    go_wp2_with fail
    go_ret
    exact ⟨ret_bool HF.out, hbel1.out⟩
  · have hle : ¬ (t.sz : Int) ≤ 64 := by omega
    have HF : Hid (false = fitsB t) := by
      show _ = _
      unfold fitsB
      rw [eq_comm, decide_eq_false_iff_not]
      exact fun q => hc q.1
    clear hc hsz
    go_enter Tryz.func45, Tryz.ntmps45
    go_wp2_with fail
    go_ret
    exact ⟨ret_bool HF.out, Below.refl _ _⟩
end Go.Proofs.YtcagcfhnbphggaaGreatDoor

/- A region that draws its order, whose own operations only read and whose callees write nothing below a block number, walked once in the order of the text. -/
namespace Go.Proofs.YtcagcfhnbphggaaGreatDoor
open Go.ChangeShapes Go.WideShapes Go.ChangeAt Go.RowKit

/-- A world that is as w below block number B. -/
structure Bel (B : Nat) (w : World) where
  w' : World
  h : Below B w w'
theorem bel_ne (B : Nat) (w : World) : Nonempty (Bel B w) := ⟨⟨w, Below.refl B w⟩⟩
theorem wp_region_bel {P : Program} {id : Nat} {Q : Exit → Act → World → Prop} {a : Act} {w : World} {l : List Oper} (B : Nat) (hm : P.follows .mixedOrders = true) (hB : Region.lexB .any l.toArray = true)
    (h : wpQuiet P l.toArray (fun w' => ∃ p : Bel B w, w' = p.w') (fun a' => ∀ w', (∃ p : Bel B w, w' = p.w') → Q .normal a' w') l a) : (Code.region id l.toArray true).wp P Q a w :=
  wp_region_quiet (C := fun w' => ∃ p : Bel B w, w' = p.w') hm hB ⟨⟨w.drew, (Below.refl B w).drew⟩, rfl⟩ (by simpa using h)
theorem calls_bel {P : Program} {f : FuncId} {args : Array Value} {B : Nat} {w : World} {p : Bel B w} {v : Value} (hB : B ≤ w.heap.size)
    (h : Calls P f args p.w' fun e w' => e = .returned v ∧ Below p.w'.heap.size p.w' w') : Calls P f args p.w' fun e w'' => e = .returned v ∧ ∃ q : Bel B w, w'' = q.w' :=
  h.mono fun _ w'' ⟨he, hb⟩ => ⟨he, ⟨w'', p.h.trans (hb.mono (Nat.le_trans hB p.h.size))⟩, rfl⟩
theorem calls_bel_same {P : Program} {f : FuncId} {args : Array Value} {B : Nat} {w : World} {p : Bel B w} {v : Value}
    (h : Calls P f args p.w' fun e w' => e = .returned v ∧ w' = p.w') : Calls P f args p.w' fun e w'' => e = .returned v ∧ ∃ q : Bel B w, w'' = q.w' :=
  h.mono fun _ _ ⟨he, hb⟩ => ⟨he, p, hb⟩
theorem Bel.cell {B : Nat} {w : World} (p : Bel B w) {b o : Nat} {v : Value} (hb : b < B) (h : w.cell? ⟨b, o, none⟩ = some v) : p.w'.cell? ⟨b, o, none⟩ = some v := by
  rw [p.h.cell (p := ⟨b, o, none⟩) hb]; exact h
end Go.Proofs.YtcagcfhnbphggaaGreatDoor

/- What the specification's small functions on terms answer: kids of a kind, binders, none, too great; and l1Trees, which reads levels. -/
namespace Go.Proofs.YtcagcfhnbphggaaGreatDoor
open Go.ChangeShapes Go.WideShapes Go.ChangeAt Go.RowKit

set_option maxHeartbeats 1000000 in
theorem l3KidsOf_any (k : Int) (w : World) : Calls Tryz.prog 23 #[.int .i64 k] w fun e w' => e = .returned (.int .i64 (tkidsN k)) ∧ Below w.heap.size w w' := by
  rcases kind_cases k with rfl | rfl | rfl | rfl | rfl | rfl | rfl | rfl | rfl | h
  · go_enter Tryz.func23, Tryz.ntmps23; go_wp2; go_ret; exact ⟨rfl, bel_alloc (Below.refl _ _) _⟩
  · go_enter Tryz.func23, Tryz.ntmps23; go_wp2; go_ret; exact ⟨rfl, bel_alloc (Below.refl _ _) _⟩
  · go_enter Tryz.func23, Tryz.ntmps23; go_wp2; go_ret; exact ⟨rfl, bel_alloc (Below.refl _ _) _⟩
  · go_enter Tryz.func23, Tryz.ntmps23; go_wp2; go_ret; exact ⟨rfl, bel_alloc (Below.refl _ _) _⟩
  · go_enter Tryz.func23, Tryz.ntmps23; go_wp2; go_ret; exact ⟨rfl, bel_alloc (Below.refl _ _) _⟩
  · go_enter Tryz.func23, Tryz.ntmps23; go_wp2; go_ret; exact ⟨rfl, bel_alloc (Below.refl _ _) _⟩
  · go_enter Tryz.func23, Tryz.ntmps23; go_wp2; go_ret; exact ⟨rfl, bel_alloc (Below.refl _ _) _⟩
  · go_enter Tryz.func23, Tryz.ntmps23; go_wp2; go_ret; exact ⟨rfl, bel_alloc (Below.refl _ _) _⟩
  · go_enter Tryz.func23, Tryz.ntmps23; go_wp2; go_ret; exact ⟨rfl, bel_alloc (Below.refl _ _) _⟩
  have HK := hide (tkidsN_neg k h)
  by_cases h1 : k < 1
  · have d1 : decide (k < 1) = true := by simp [h1]
    go_enter Tryz.func23, Tryz.ntmps23; go_wp2_with fail; go_ret; exact ⟨ret_int HK.out.symm, Below.refl _ _⟩
  · have d1 : decide (k < 1) = false := by simp; omega
    have d2 : decide (9 < k) = true := by simp; omega
    go_enter Tryz.func23, Tryz.ntmps23; go_wp2_with fail; go_ret; exact ⟨ret_int HK.out.symm, Below.refl _ _⟩
set_option maxHeartbeats 1000000 in
theorem l3Binds_any (k : Int) (w : World) : Calls Tryz.prog 30 #[.int .i64 k] w fun e w' => e = .returned (.bool (bindsB k)) ∧ w' = w := by
  have HB : Hid (bindsB k = (decide (k = 5) || decide (k = 6) || decide (k = 7))) := rfl
  rw [HB.out]
  by_cases h5 : k = 5
  · subst h5; go_enter Tryz.func30, Tryz.ntmps30; go_wp2; go_ret; exact ⟨rfl, rfl⟩
  have e5 : (k == 5) = false := beq_eq_false_iff_ne.2 h5
  by_cases h6 : k = 6
  · subst h6; go_enter Tryz.func30, Tryz.ntmps30; go_wp2; go_ret; exact ⟨rfl, rfl⟩
  have e6 : (k == 6) = false := beq_eq_false_iff_ne.2 h6
  by_cases h7 : k = 7
  · subst h7; go_enter Tryz.func30, Tryz.ntmps30; go_wp2; go_ret; exact ⟨rfl, rfl⟩
  have e7 : (k == 7) = false := beq_eq_false_iff_ne.2 h7
  have HN : Hid ((decide (k = 5) || decide (k = 6) || decide (k = 7)) = false) := by show _ = _; simp [h5, h6, h7]
  rw [HN.out]
  clear h5 h6 h7
  go_enter Tryz.func30, Tryz.ntmps30; go_wp2; go_ret; exact ⟨rfl, rfl⟩
set_option maxHeartbeats 400000 in
theorem l3Great_any (g : Nat) (sz : Int) (w : World) (h : w.cell? ⟨g, 6, none⟩ = some (.int .i64 sz)) : Calls Tryz.prog 26 #[.pointer (some ⟨g, 0, none⟩)] w fun e w' => e = .returned (.bool (decide (20000 < sz))) ∧ w' = w := by
  go_enter Tryz.func26, Tryz.ntmps26
  go_wp2_with fail
  go_ret
  exact ⟨rfl, rfl⟩

/-- A row of pointers. -/
def PtrRow (w : World) (v : Value) (ps : List Nat) : Prop :=
  ∃ a cap, v = .slice a ps.length cap ∧ ps.length ≤ cap ∧ cap ≤ maxLen ∧ (0 < ps.length → ∃ b off, a = some ⟨b, off, none⟩ ∧ ∀ j (h : j < ps.length), w.cell? ⟨b, off + j, none⟩ = some (ptrV ps[j]))
theorem PtrRow.keep {w w' : World} (hb : Below w.heap.size w w') {v : Value} {ps : List Nat} (h : PtrRow w v ps) : PtrRow w' v ps := by
  obtain ⟨a, cap, hv, h1, h2, h3⟩ := h
  refine ⟨a, cap, hv, h1, h2, fun h0 => ?_⟩
  obtain ⟨b, off, ha, hc⟩ := h3 h0
  exact ⟨b, off, ha, fun j h => keep_cell hb (hc j h)⟩
theorem PtrRow.own {w : World} {base : Nat} {e : TypeId} {v : Value} {n : Nat} {ps : List Nat} (h : w.ownsRow base e 1 v n (ps.map ptrV)) (hn : n = ps.length) : PtrRow w v ps := by
  subst hn
  rcases h.2 with ⟨rfl, h0⟩ | ⟨g, cap, cur, rfl, _, hg, hnc, hcm, hcs, htake⟩
  · exact ⟨none, 0, by rw [h0], by omega, by unfold maxLen; omega, fun h => by omega⟩
  · refine ⟨_, _, rfl, hnc, hcm, fun _ => ⟨g, 0, rfl, fun j hj => ?_⟩⟩
    rw [Nat.zero_add, h.cellAt j (by omega), List.getElem?_map, List.getElem?_eq_getElem hj]; rfl
/-- Levels as trees, each one that fits. -/
def LevTrees (w : World) (ps : List Nat) (us : List Tr) : Prop := TreesAt w ps us ∧ ∀ u ∈ us, fitsB u = true
theorem TreesAt.keep {w w' : World} (hb : Below w.heap.size w w') {ps : List Nat} {us : List Tr} (h : TreesAt w ps us) : TreesAt w' ps us :=
  ⟨h.1, fun j h1 h2 => ((h.2 j h1 h2).keep hb).mono hb.size⟩
theorem LevTrees.keep {w w' : World} (hb : Below w.heap.size w w') {ps : List Nat} {us : List Tr} (h : LevTrees w ps us) : LevTrees w' ps us := ⟨h.1.keep hb, h.2⟩
end Go.Proofs.YtcagcfhnbphggaaGreatDoor

/- Plain facts on lists of bytes: what a text's parts between dots are, and that cutting at the first dot, or going on byte by byte, gives them. No program is named here. -/
namespace Go.Proofs.YtcagcfhnbphggaaGreatDoor

def parts : List UInt8 → List (List UInt8)
  | [] => [[]]
  | c :: l => if c = 46 then [] :: parts l else match parts l with | [] => [[c]] | p :: ps => (c :: p) :: ps

theorem parts_none : ∀ (l : List UInt8), 46 ∉ l → parts l = [l]
  | [], _ => rfl
  | c :: l, h => by
    have hc : ¬ c = 46 := fun e => h (by simp [e])
    have hl : 46 ∉ l := fun e => h (by simp [e])
    simp [parts, hc, parts_none l hl]
theorem parts_at : ∀ (a b : List UInt8), 46 ∉ a → parts (a ++ 46 :: b) = a :: parts b
  | [], b, _ => by simp [parts]
  | c :: a, b, h => by
    have hc : ¬ c = 46 := fun e => h (by simp [e])
    have hl : 46 ∉ a := fun e => h (by simp [e])
    simp [parts, hc, parts_at a b hl]
theorem parts_len : ∀ (l : List UInt8), (parts l).length ≤ l.length + 1
  | [] => by simp [parts]
  | c :: l => by
    have ih := parts_len l
    unfold parts
    split
    · simp; omega
    · split
      · simp
      · rename_i h; rw [h] at ih; simp at ih ⊢; omega

/-- Where a loop over the bytes stands: at byte k, the part at hand began at f, the parts ahead of it are ps. -/
def CutAt (L : List UInt8) (k f : Nat) (ps : List (List UInt8)) : Prop :=
  (k ≤ L.length ∧ f ≤ k ∧ 46 ∉ (L.drop f).take (k - f) ∧ parts L = ps ++ parts (L.drop f)) ∨ (k = L.length + 1 ∧ parts L = ps)
theorem cut_start (L : List UInt8) : CutAt L 0 0 [] := .inl ⟨Nat.zero_le _, Nat.le_refl _, by simp, by simp⟩
theorem cut_last {L : List UInt8} {f : Nat} {ps : List (List UInt8)} (h : CutAt L L.length f ps) : f ≤ L.length ∧ CutAt L (L.length + 1) (L.length + 1) (ps ++ [(L.drop f).take (L.length - f)]) := by
  rcases h with ⟨_, hf, hn, hp⟩ | ⟨h, _⟩
  · have e : (L.drop f).take (L.length - f) = L.drop f := List.take_of_length_le (by simp)
    refine ⟨hf, .inr ⟨rfl, ?_⟩⟩
    rw [e] at hn ⊢
    rw [hp, parts_none _ hn]
  · omega
theorem drop_split (L : List UInt8) (k f : Nat) (hk : k < L.length) (hf : f ≤ k) : L.drop f = (L.drop f).take (k - f) ++ L[k] :: L.drop (k + 1) := by
  have h1 : (L.drop f).drop (k - f) = L[k] :: L.drop (k + 1) := by
    rw [List.drop_drop, show f + (k - f) = k from by omega, List.drop_eq_getElem_cons hk]
  have h2 := List.take_append_drop (k - f) (L.drop f)
  rw [h1] at h2
  exact h2.symm
theorem cut_dot {L : List UInt8} {k f : Nat} {ps : List (List UInt8)} (hk : k < L.length) (h : CutAt L k f ps) (hc : L[k] = 46) : f ≤ k ∧ CutAt L (k + 1) (k + 1) (ps ++ [(L.drop f).take (k - f)]) := by
  rcases h with ⟨_, hf, hn, hp⟩ | ⟨h, _⟩
  · have e := drop_split L k f hk hf
    refine ⟨hf, .inl ⟨by omega, Nat.le_refl _, by simp, ?_⟩⟩
    rw [hc] at e
    have e2 : parts (L.drop f) = (L.drop f).take (k - f) :: parts (L.drop (k + 1)) := by
      conv => lhs; rw [e]
      exact parts_at _ _ hn
    rw [hp, e2]; simp
  · omega
theorem cut_byte {L : List UInt8} {k f : Nat} {ps : List (List UInt8)} (hk : k < L.length) (h : CutAt L k f ps) (hc : L[k] ≠ 46) : CutAt L (k + 1) f ps := by
  rcases h with ⟨_, hf, hn, hp⟩ | ⟨h, _⟩
  · refine .inl ⟨by omega, by omega, ?_, hp⟩
    have hl : k - f < (L.drop f).length := by simp; omega
    rw [show k + 1 - f = (k - f) + 1 from by omega, List.take_succ_eq_append_getElem hl]
    have : (L.drop f)[k - f] = L[k] := by simp [show f + (k - f) = k from by omega]
    rw [this]
    simp only [List.mem_append, List.mem_singleton, not_or]
    exact ⟨hn, fun e => hc e.symm⟩
  · omega
theorem cut_end {L : List UInt8} {f : Nat} {ps : List (List UInt8)} (h : CutAt L (L.length + 1) f ps) : parts L = ps := by
  rcases h with ⟨h, _⟩ | ⟨_, h⟩
  · omega
  · exact h

/-- The first dot, as the library's search tells it. -/
theorem index_miss : ∀ (l : List UInt8), Lib.indexByte l 46 < 0 → 46 ∉ l
  | [], _ => by simp
  | c :: l, h => by
    have hg := Lib.indexByte_ge l 46
    unfold Lib.indexByte at h
    split at h
    · omega
    · rename_i hc
      split at h
      · rename_i h1
        have := index_miss l (by have := beq_iff_eq.1 h1; omega)
        simp only [List.mem_cons, not_or]
        exact ⟨fun e => hc (by simp [e]), this⟩
      · rename_i h1
        have : Lib.indexByte l 46 ≠ -1 := fun e => h1 (by simp [e])
        omega
theorem index_hit : ∀ (l : List UInt8) (i : Nat), Lib.indexByte l 46 = i → i < l.length ∧ 46 ∉ l.take i ∧ l = l.take i ++ 46 :: l.drop (i + 1)
  | [], i, h => by simp [Lib.indexByte] at h
  | c :: l, i, h => by
    unfold Lib.indexByte at h
    split at h
    · rename_i hc
      have : c = 46 := by simpa using hc
      have : i = 0 := by omega
      subst this; subst c; simp
    · rename_i hc
      split at h
      · omega
      · rename_i h1
        obtain ⟨j, hj⟩ : ∃ j : Nat, Lib.indexByte l 46 = j := by
          have hg := Lib.indexByte_ge l 46
          have : Lib.indexByte l 46 ≠ -1 := fun e => h1 (by simp [e])
          exact ⟨(Lib.indexByte l 46).toNat, by omega⟩
        have : i = j + 1 := by omega
        subst this
        obtain ⟨a, b, c'⟩ := index_hit l j hj
        refine ⟨by simp; omega, ?_, ?_⟩
        · simp only [List.take_succ_cons, List.mem_cons, not_or]
          exact ⟨fun e => hc (by simp [e]), b⟩
        · simp only [List.take_succ_cons, List.drop_succ_cons, List.cons_append]
          rw [← c']
end Go.Proofs.YtcagcfhnbphggaaGreatDoor
