/- What the program's fewParams answers: whether at most six different parameters stand in the nodes. -/
import Derived.Test.YtcagcfhnbphggaaGreatDoorStrs
import Derived.Deep.RegionWith
import Derived.Deep.RegionHeld3
import Derived.Deep.AppendLies
namespace Go.Proofs.YtcagcfhnbphggaaGreatDoor
open Go.ChangeShapes Go.WideShapes Go.ChangeAt Go.RowKit

theorem bel_alloc {a w : World} (h : Below a.heap.size a w) (o : Obj) : Below a.heap.size a (w.alloc o) := h.alloc h.size o
theorem bel_trans {w w1 w2 : World} (h : Below w.heap.size w w1) (h2 : Below w1.heap.size w1 w2) : Below w.heap.size w w2 := h.trans (h2.mono h.size)
theorem size_set (w : World) (p : Addr) (u : Value) : (w.setCell p u).heap.size = w.heap.size := by simp [World.setCell]
theorem hide {p : Prop} (h : p) : Hid p := h
theorem unhide {p : Prop} (h : Hid p) : p := h
/-- The first texts of a row are these. -/
def Heads (xs : List Value) (ss : List ByteArray) : Prop := ∀ j (h : j < ss.length), xs[j]? = some (.string ss[j])
theorem heads_strs {w : World} {base R n cap : Nat} {e : TypeId} {xs : List Value} {ss : List ByteArray} (h : w.ownsRow base e 1 (.slice (some ⟨R, 0, none⟩) n cap) n xs) (hx : Heads xs ss) (hs : ss.length ≤ n) (c : Nat) (hc : ss.length ≤ c) (hm : c ≤ maxLen) :
    StrsAt w (.slice (some ⟨R, 0, none⟩) ss.length c) ss :=
  ⟨_, _, rfl, hc, hm, fun _ => ⟨R, 0, rfl, fun j hj => by rw [Nat.zero_add, h.cellAt j (by omega)]; exact hx j hj⟩⟩
theorem heads_put {xs : List Value} {ss : List ByteArray} (hx : Heads xs ss) (hl : ss.length < xs.length) (s : ByteArray) : Heads (xs.set ss.length (.string s)) (ss ++ [s]) := by
  intro j hj
  by_cases e : j = ss.length
  · subst e; rw [List.getElem?_set_self hl]; simp
  · rw [List.getElem?_set_ne (by omega), hx j (by simp at hj; omega), List.getElem_append_left (by simp at hj; omega)]

set_option maxHeartbeats 1000000 in
theorem fewParams_any (v : Value) (ns : List Nd) (w : World) (hns : NodesAt w v ns) (hsz : ∀ nd ∈ ns, nd.s.size ≤ maxLen) :
    Calls Tryz.prog 88 #[.agg #[v]] w fun e w' => e = .returned (.bool (decide ((namesOf ns).length ≤ 6))) ∧ Below w.heap.size w w' := by
  obtain ⟨a, cap, rfl, hl, hm, hc⟩ := hns
  unfold maxLen at hm
  have H : Hid (0 < ns.length → ∃ b off, a = some ⟨b, off, none⟩ ∧ ∀ i (h : i < ns.length), NodeAt w b (off + i * 3) ns[i]) := hc
  have HZ : Hid (∀ nd ∈ ns, nd.s.size ≤ maxLen) := hsz
  clear hc hsz
  have hst := World.ownsRow_lit (base := w.heap.size) (e := 144) (size := 1) (w.alloc (.cells #[.slice a ns.length cap] 94)) #[.string ⟨#[]⟩, .string ⟨#[]⟩, .string ⟨#[]⟩, .string ⟨#[]⟩, .string ⟨#[]⟩, .string ⟨#[]⟩] 6 (by simp) (by unfold maxLen; omega) rfl
  rw [World.size_alloc] at hst
  have HST := hide hst
  clear hst
  go_enter Tryz.func88, Tryz.ntmps88
  go_wp2_with fail
  go_loopw [4, 10] (fun c i wr => ∃ (k : Nat) (xs : List Value) (ss : List ByteArray), k ≤ ns.length ∧ i = .int .i64 k ∧ Hid (ss = namesOf (ns.take k)) ∧ ss.length ≤ 6 ∧ c = .int .i64 ss.length ∧ wr.ownsRow w.heap.size 144 1 (.slice (some ⟨w.heap.size + 1, 0, none⟩) 6 6) 6 xs ∧ Hid (Heads xs ss) ∧ w.heap.size + 1 < wr.heap.size ∧ Below w.heap.size w wr) (fun _ i _ => ns.length - (intOf i).toNat)
  case atStart => exact ⟨0, _, [], by omega, rfl, rfl, by simp, rfl, unhide HST, fun j h => by simp at h, by simp, ((Below.refl _ _).alloc (Nat.le_refl _) _).alloc (by simp) _⟩
  case round =>
    obtain ⟨k, xs, ss, hk, rfl, HS, h6, rfl, hown, HX, hz, hbel⟩ := hrel
    by_cases hlt : k < ns.length
    · obtain ⟨b, off, rfl, hc⟩ := H.out (by omega)
      obtain ⟨c1, c2, kv, c3, hkv⟩ := (hc k hlt).keep hbel
      have hsn := names_snoc ns k hlt
      rw [← HS.out] at hsn
      have hle := names_le ns (k + 1)
      rw [hsn] at hle
      have HSN : Hid (namesOf (ns.take (k + 1)) = addName ss ns[k]) := hsn
      have HLE : Hid ((addName ss ns[k]).length ≤ (namesOf ns).length) := hle
      obtain ⟨ka, kc, rfl, _, _, _⟩ := hkv
      clear hc H hsn hle
      generalize ns[k] = nd at *
      have hlt' : (k : Int) < ns.length := by omega
      by_cases h5 : nd.k = 5
      · have hq : (nd.k != 5) = false := by simp [h5]
        have HK5 : Hid (nd.k = 5) := h5
        clear h5
        have hstr := heads_strs hown HX.out h6 6 h6 (by unfold maxLen; omega)
        have hi6 : (ss.length : Int) ≤ 6 := by omega
        have hsl : ∀ W : World, (Instr.sliceAt 144 (.pointer (some ⟨w.heap.size + 1, 0, none⟩)) none (some (.int .i64 (ss.length : Int))) none).run Tryz.prog W = .ok (.slice (some ⟨w.heap.size + 1, 0, none⟩) ss.length 6) W := fun W => by
          rw [run_sliceAt_array_h W 144 ⟨w.heap.size + 1, 0, none⟩ (by kernel_rfl) .i64 _ (by omega) (by rw [show Tryz.prog.arrayLen 144 = 6 from by kernel_rfl]; omega)]
          simp [slicedAt, go_sem]
        cases hh : hasB ss nd.s
        · have HAD : Hid (addName ss nd = ss ++ [nd.s]) := by show _ = _; rw [addName, if_pos ⟨HK5.out, hh⟩]
          by_cases hfull : ss.length = 6
          · have HF : Hid (decide ((namesOf ns).length ≤ 6) = false) := by
              have := HLE.out
              rw [HAD.out] at this
              show _ = false
              simp at this ⊢; omega
            have hq6 : ((ss.length : Int) == 6) = true := by simp; omega
            clear hfull
            go_wp2_with fail
            go_region_with (go_at_call 99; refine (contains_any _ ss nd.s _ ?_).mono ?_; exact hstr.keep (by repeat (first | exact Below.refl _ _ | apply Below.drew | refine Below.alloc ?_ (Nat.le_refl _) _)); rintro e w1 ⟨rfl, rfl⟩)
            go_wp2_with fail
            go_ret
            exact ⟨ret_bool HF.out.symm, by repeat (first | exact hbel | apply Below.drew | refine Below.alloc ?_ hbel.size _)⟩
          · have hq6 : ((ss.length : Int) == 6) = false := by rw [beq_eq_false_iff_ne]; omega
            have hl6 : ss.length < 6 := by omega
            have hxl := hown.1
            have hf := hown.frozenAt ss.length
            have hcl := hown.cellAt ss.length (by omega)
            rw [List.getElem?_eq_getElem (by omega)] at hcl
            have HPUT := hide (heads_put HX.out (by omega) nd.s)
            have HNN : Hid (ss ++ [nd.s] = namesOf (ns.take (k + 1))) := by show _ = _; rw [HSN.out, HAD.out]
            clear hfull
            go_wp2_with fail
            go_region_with (go_at_call 99; refine (contains_any _ ss nd.s _ ?_).mono ?_; exact hstr.keep (by repeat (first | exact Below.refl _ _ | apply Below.drew | refine Below.alloc ?_ (Nat.le_refl _) _)); rintro e w1 ⟨rfl, rfl⟩)
            go_wp2_with fail
            go_roundw
            case rel => exact ⟨k + 1, _, ss ++ [nd.s], by omega, by go_num, HNN, by simp; omega, by simp, ((hown.stored ss.length (.string nd.s)).1.alloc _).drew, HPUT, by show _ < (World.alloc _ _).heap.size; rw [World.size_alloc, size_set]; omega, (bel_alloc (hbel.setCell (p := ⟨_, _, _⟩) (by show w.heap.size ≤ w.heap.size + 1; omega) _) _).drew⟩
            case measure => simp [intOf]; omega
        · have HAD : Hid (ss = namesOf (ns.take (k + 1))) := by show _ = _; rw [HSN.out, addName, if_neg (by simp [hh])]
          go_wp2_with fail
          go_region_with (go_at_call 99; refine (contains_any _ ss nd.s _ ?_).mono ?_; exact hstr.keep (by repeat (first | exact Below.refl _ _ | apply Below.drew | refine Below.alloc ?_ (Nat.le_refl _) _)); rintro e w1 ⟨rfl, rfl⟩)
          go_wp2_with fail
          go_roundw
          case rel => exact ⟨k + 1, xs, ss, by omega, by go_num, HAD, h6, rfl, (hown.alloc _).drew, HX, by show _ < (World.alloc _ _).heap.size; rw [World.size_alloc]; omega, (bel_alloc hbel _).drew⟩
          case measure => simp [intOf]; omega
      · have hq : (nd.k != 5) = true := by simp [h5]
        have HN : Hid (ss = namesOf (ns.take (k + 1))) := by show _ = _; rw [HSN.out, addName, if_neg (by simp [h5])]
        clear h5
        go_wp2_with fail
        go_region
        go_wp2_with fail
        go_roundw
        case rel => exact ⟨k + 1, xs, ss, by omega, by go_num, HN, h6, rfl, (hown.alloc _).drew, HX, by show _ < (World.alloc _ _).heap.size; rw [World.size_alloc]; omega, (bel_alloc hbel _).drew⟩
        case measure => simp [intOf]; omega
    · have HF : Hid (decide ((namesOf ns).length ≤ 6) = true) := by
        have := HS.out
        rw [List.take_of_length_le (by omega)] at this
        show _ = true
        rw [← this]; simp [h6]
      go_wp2_with fail
      go_ret
      exact ⟨ret_bool HF.out.symm, hbel⟩
end Go.Proofs.YtcagcfhnbphggaaGreatDoor

/- How the specification's trees of levels lie in memory, and what the making of one node answers. -/
namespace Go.Proofs.YtcagcfhnbphggaaGreatDoor
open Go.ChangeShapes Go.WideShapes Go.ChangeAt Go.RowKit

inductive Tr where
  | leaf (k : Int) (s : ByteArray)
  | one (k : Int) (s : ByteArray) (a : Tr)
  | two (k : Int) (s : ByteArray) (a b : Tr)

def Tr.sz : Tr → Nat
  | .leaf _ _ => 1
  | .one _ _ a => min 1000 (1 + a.sz)
  | .two _ _ a b => min 1000 (1 + a.sz + b.sz)
theorem Tr.sz_le : ∀ t : Tr, t.sz ≤ 1000
  | .leaf _ _ => by simp [Tr.sz]
  | .one _ _ a => by simp [Tr.sz]; omega
  | .two _ _ a b => by simp [Tr.sz]; omega

/-- A node's block. -/
def nodeV (k : Int) (s : ByteArray) (a b : Value) (sz : Nat) : Obj := .cells #[.int .i64 k, .string s, a, b, .int .i64 sz] 86 (0, 0)
/-- The tree t hangs at block b, all its blocks below B. -/
def TreeAt (B : Nat) (w : World) : Nat → Tr → Prop
  | g, .leaf k s => g < B ∧ w.heap[g]? = some (nodeV k s (.pointer none) (.pointer none) 1)
  | g, .one k s a => g < B ∧ ∃ pa, w.heap[g]? = some (nodeV k s (.pointer (some ⟨pa, 0, none⟩)) (.pointer none) (Tr.one k s a).sz) ∧ TreeAt B w pa a
  | g, .two k s a b => g < B ∧ ∃ pa pb, w.heap[g]? = some (nodeV k s (.pointer (some ⟨pa, 0, none⟩)) (.pointer (some ⟨pb, 0, none⟩)) (Tr.two k s a b).sz) ∧ TreeAt B w pa a ∧ TreeAt B w pb b

theorem TreeAt.of {B B' : Nat} {w w' : World} (hB : B ≤ B') (h : ∀ g o, g < B → w.heap[g]? = some o → (∃ cs, o = .cells cs 86 (0, 0)) → w'.heap[g]? = some o) : ∀ {t : Tr} {g : Nat}, TreeAt B w g t → TreeAt B' w' g t
  | .leaf k s, g, ht => ⟨by have := ht.1; omega, h g _ ht.1 ht.2 ⟨_, rfl⟩⟩
  | .one k s a, g, ht => by
    obtain ⟨h1, pa, h2, h3⟩ := ht
    exact ⟨by omega, pa, h g _ h1 h2 ⟨_, rfl⟩, TreeAt.of hB h h3⟩
  | .two k s a b, g, ht => by
    obtain ⟨h1, pa, pb, h2, h3, h4⟩ := ht
    exact ⟨by omega, pa, pb, h g _ h1 h2 ⟨_, rfl⟩, TreeAt.of hB h h3, TreeAt.of hB h h4⟩
theorem TreeAt.keep {B : Nat} {w w' : World} (hb : Below B w w') {t : Tr} {g : Nat} (h : TreeAt B w g t) : TreeAt B w' g t :=
  TreeAt.of (Nat.le_refl _) (fun g _ hg ho _ => by rw [hb.block g hg]; exact ho) h
theorem TreeAt.mono {B B' : Nat} {w : World} (hB : B ≤ B') {t : Tr} {g : Nat} (h : TreeAt B w g t) : TreeAt B' w g t :=
  TreeAt.of hB (fun _ _ _ ho _ => ho) h
/-- A row of another type may be written. -/
theorem TreeAt.grown {B : Nat} {w w' : World} {row : Option Nat} (hg : w.grownBy w' row) (hne : ∀ k, row = some k → ∃ cs e, e ≠ 86 ∧ w.heap[k]? = some (.cells cs e (0, 0))) {t : Tr} {g : Nat} (h : TreeAt B w g t) : TreeAt B w' g t :=
  TreeAt.of (Nat.le_refl _) (fun g o _ ho ht => by
    obtain ⟨cs, rfl⟩ := ht
    have hlt : g < w.heap.size := (Array.getElem?_eq_some_iff.1 ho).1
    rw [hg.block g hlt ?_]; exact ho
    intro e
    obtain ⟨cs', e', h1, h2⟩ := hne g e.symm
    rw [ho] at h2
    simp at h2
    exact h1 h2.2.symm) h
theorem TreeAt.cell4 {B : Nat} {w : World} {g : Nat} : ∀ {t : Tr}, TreeAt B w g t → w.cell? ⟨g, 4, none⟩ = some (.int .i64 t.sz)
  | .leaf _ _, h => by rw [cell_of_row w g 4 _ _ _ h.2]; rfl
  | .one _ _ _, h => by obtain ⟨_, pa, h2, _⟩ := h; rw [cell_of_row w g 4 _ _ _ h2]; rfl
  | .two _ _ _ _, h => by obtain ⟨_, pa, pb, h2, _⟩ := h; rw [cell_of_row w g 4 _ _ _ h2]; rfl

set_option maxHeartbeats 400000 in
theorem none_some (a : Addr) (w : World) : Calls Tryz.prog 63 #[.pointer (some a)] w fun e w' => e = .returned (.bool false) ∧ w' = w := by
  go_enter Tryz.func63, Tryz.ntmps63
  go_wp2
  go_ret
  exact ⟨rfl, rfl⟩
set_option maxHeartbeats 400000 in
theorem none_none (w : World) : Calls Tryz.prog 63 #[.pointer none] w fun e w' => e = .returned (.bool true) ∧ w' = w := by
  go_enter Tryz.func63, Tryz.ntmps63
  go_wp2
  go_ret
  exact ⟨rfl, rfl⟩

set_option maxHeartbeats 1000000 in
theorem make_leaf (k : Int) (s : ByteArray) (w : World) :
    Calls Tryz.prog 80 #[.int .i64 k, .string s, .pointer none, .pointer none] w fun e w' => e = .returned (.pointer (some ⟨w.heap.size, 0, none⟩)) ∧ ∃ n, w' = (w.alloc (nodeV k s (.pointer none) (.pointer none) 1)).drewN n := by
  go_enter Tryz.func80, Tryz.ntmps80
  go_wp2_with (go_at_call 63; refine (none_none _).mono ?_; rintro e w' ⟨rfl, rfl⟩)
  go_ret
  exact ⟨rfl, 0, rfl⟩

set_option maxHeartbeats 1000000 in
theorem make_one (k : Int) (s : ByteArray) (pa sa : Nat) (w : World) (ha : w.cell? ⟨pa, 4, none⟩ = some (.int .i64 (sa : Int))) (hs : sa ≤ 1000) :
    Calls Tryz.prog 80 #[.int .i64 k, .string s, .pointer (some ⟨pa, 0, none⟩), .pointer none] w fun e w' => e = .returned (.pointer (some ⟨w.heap.size, 0, none⟩)) ∧ ∃ n, w' = (w.alloc (nodeV k s (.pointer (some ⟨pa, 0, none⟩)) (.pointer none) (min 1000 (1 + sa)))).drewN n := by
  have hlt := lt_cell ha
  have hne : ¬ pa = w.heap.size := by omega
  by_cases hbig : 1000 < 1 + sa
  · have HM : Hid (min 1000 (1 + sa) = 1000) := by show _ = _; omega
    have hb' : (1000 : Int) < 1 + (sa : Int) := by omega
    rw [HM.out]
    go_enter Tryz.func80, Tryz.ntmps80
    go_wp2_with (first | (go_at_call_of 63 (some (Addr.mk pa 0 none)); refine (none_some _ _).mono ?_; rintro e w' ⟨rfl, rfl⟩) | (go_at_call 63; refine (none_none _).mono ?_; rintro e w' ⟨rfl, rfl⟩))
    go_region
    go_wp2_with (go_at_call 63; refine (none_none _).mono ?_; rintro e w' ⟨rfl, rfl⟩)
    go_ret
    exact ⟨rfl, 1, rfl⟩
  · have HM : Hid (min 1000 (1 + sa) = 1 + sa) := by show _ = _; omega
    have hb' : ¬ (1000 : Int) < 1 + (sa : Int) := by omega
    rw [HM.out]
    go_enter Tryz.func80, Tryz.ntmps80
    go_wp2_with (first | (go_at_call_of 63 (some (Addr.mk pa 0 none)); refine (none_some _ _).mono ?_; rintro e w' ⟨rfl, rfl⟩) | (go_at_call 63; refine (none_none _).mono ?_; rintro e w' ⟨rfl, rfl⟩))
    go_region
    go_wp2_with (go_at_call 63; refine (none_none _).mono ?_; rintro e w' ⟨rfl, rfl⟩)
    go_ret
    exact ⟨rfl, 1, by simp [nodeV]; rfl⟩

set_option maxHeartbeats 2000000 in
theorem make_two (k : Int) (s : ByteArray) (pa sa pb sb : Nat) (w : World) (ha : w.cell? ⟨pa, 4, none⟩ = some (.int .i64 (sa : Int))) (hs : sa ≤ 1000) (hb : w.cell? ⟨pb, 4, none⟩ = some (.int .i64 (sb : Int))) (hsb : sb ≤ 1000) :
    Calls Tryz.prog 80 #[.int .i64 k, .string s, .pointer (some ⟨pa, 0, none⟩), .pointer (some ⟨pb, 0, none⟩)] w fun e w' => e = .returned (.pointer (some ⟨w.heap.size, 0, none⟩)) ∧ ∃ n, w' = (w.alloc (nodeV k s (.pointer (some ⟨pa, 0, none⟩)) (.pointer (some ⟨pb, 0, none⟩)) (min 1000 (1 + sa + sb)))).drewN n := by
  have hlt := lt_cell ha
  have hltb := lt_cell hb
  have hne : ¬ pa = w.heap.size := by omega
  have hneb : ¬ pb = w.heap.size := by omega
  by_cases hbig : 1000 < 1 + sa + sb
  · have HM : Hid (min 1000 (1 + sa + sb) = 1000) := by show _ = _; omega
    have hb' : (1000 : Int) < 1 + (sa : Int) + (sb : Int) := by omega
    rw [HM.out]
    go_enter Tryz.func80, Tryz.ntmps80
    go_wp2_with (go_at_call 63; refine (none_some _ _).mono ?_; rintro e w' ⟨rfl, rfl⟩)
    go_region
    go_wp2_with (go_at_call 63; refine (none_some _ _).mono ?_; rintro e w' ⟨rfl, rfl⟩)
    go_region
    go_wp2_with fail
    go_ret
    exact ⟨rfl, 2, rfl⟩
  · have HM : Hid (min 1000 (1 + sa + sb) = 1 + sa + sb) := by show _ = _; omega
    have hb' : ¬ (1000 : Int) < 1 + (sa : Int) + (sb : Int) := by omega
    rw [HM.out]
    go_enter Tryz.func80, Tryz.ntmps80
    go_wp2_with (go_at_call 63; refine (none_some _ _).mono ?_; rintro e w' ⟨rfl, rfl⟩)
    go_region
    go_wp2_with (go_at_call 63; refine (none_some _ _).mono ?_; rintro e w' ⟨rfl, rfl⟩)
    go_region
    go_wp2_with fail
    go_ret
    exact ⟨rfl, 2, by simp [nodeV]; rfl⟩
end Go.Proofs.YtcagcfhnbphggaaGreatDoor
