/- What the program's fewParams answers: whether at most six different parameters stand in the nodes. -/
import Derived.Test.YtlhhdhmhncjilaaGreatStrs
import Derived.Deep.RegionWith
namespace Go.Proofs.YtlhhdhmhncjilaaGreat
open Go.ChangeShapes Go.WideShapes Go.ChangeAt Go.RowKit

theorem bel_alloc {a w : World} (h : Below a.heap.size a w) (o : Obj) : Below a.heap.size a (w.alloc o) := h.alloc h.size o
theorem bel_trans {w w1 w2 : World} (h : Below w.heap.size w w1) (h2 : Below w1.heap.size w1 w2) : Below w.heap.size w w2 := h.trans (h2.mono h.size)
theorem size_set (w : World) (p : Addr) (u : Value) : (w.setCell p u).heap.size = w.heap.size := by simp [World.setCell]
theorem hide {p : Prop} (h : p) : Hid p := h
theorem unhide {p : Prop} (h : Hid p) : p := h
/-- The first texts of a row are these. -/
def Heads (xs : List Value) (ss : List ByteArray) : Prop := ∀ j (h : j < ss.length), xs[j]? = some (.string ss[j])
theorem heads_strs {w : World} {base R n cap : Nat} {e : TypeId} {xs : List Value} {ss : List ByteArray} (h : w.ownsRow base e 1 (.slice (some ⟨R, 0, none⟩) n cap) n xs) (hx : Heads xs ss) (hs : ss.length ≤ n) (c : Nat) (hc : ss.length ≤ c) (hm : c ≤ maxLen) :
    StrsAt w (.slice (some ⟨R, 0, none⟩) ss.length c) ss :=
  ⟨_, _, rfl, hc, hm, fun _ => ⟨R, 0, rfl, fun j hj => by rw [Nat.zero_add, h.cellAt j (by omega)]; exact hx j hj⟩⟩
theorem heads_put {xs : List Value} {ss : List ByteArray} (hx : Heads xs ss) (hl : ss.length < xs.length) (s : ByteArray) : Heads (xs.set ss.length (.string s)) (ss ++ [s]) := by
  intro j hj
  by_cases e : j = ss.length
  · subst e; rw [List.getElem?_set_self hl]; simp
  · rw [List.getElem?_set_ne (by omega), hx j (by simp at hj; omega), List.getElem_append_left (by simp at hj; omega)]

set_option maxHeartbeats 1000000 in
theorem fewParams_any (v : Value) (ns : List Nd) (w : World) (hns : NodesAt w v ns) (hsz : ∀ nd ∈ ns, nd.s.size ≤ maxLen) :
    Calls Tryz.prog 96 #[.agg #[v]] w fun e w' => e = .returned (.bool (decide ((namesOf ns).length ≤ 6))) ∧ Below w.heap.size w w' := by
  obtain ⟨a, cap, rfl, hl, hm, hc⟩ := hns
  unfold maxLen at hm
  have H : Hid (0 < ns.length → ∃ b off, a = some ⟨b, off, none⟩ ∧ ∀ i (h : i < ns.length), NodeAt w b (off + i * 3) ns[i]) := hc
  have HZ : Hid (∀ nd ∈ ns, nd.s.size ≤ maxLen) := hsz
  clear hc hsz
  have hst := World.ownsRow_lit (base := w.heap.size) (e := 151) (size := 1) (w.alloc (.cells #[.slice a ns.length cap] 101)) #[.string ⟨#[]⟩, .string ⟨#[]⟩, .string ⟨#[]⟩, .string ⟨#[]⟩, .string ⟨#[]⟩, .string ⟨#[]⟩] 6 (by simp) (by unfold maxLen; omega) rfl
  rw [World.size_alloc] at hst
  have HST := hide hst
  clear hst
  go_enter Tryz.func96, Tryz.ntmps96
  go_wp2_with fail
  go_loopw [4, 10] (fun c i wr => ∃ (k : Nat) (xs : List Value) (ss : List ByteArray), k ≤ ns.length ∧ i = .int .i64 k ∧ Hid (ss = namesOf (ns.take k)) ∧ ss.length ≤ 6 ∧ c = .int .i64 ss.length ∧ wr.ownsRow w.heap.size 151 1 (.slice (some ⟨w.heap.size + 1, 0, none⟩) 6 6) 6 xs ∧ Hid (Heads xs ss) ∧ w.heap.size + 1 < wr.heap.size ∧ Below w.heap.size w wr) (fun _ i _ => ns.length - (intOf i).toNat)
  case atStart => exact ⟨0, _, [], by omega, rfl, rfl, by simp, rfl, unhide HST, fun j h => by simp at h, by simp, ((Below.refl _ _).alloc (Nat.le_refl _) _).alloc (by simp) _⟩
  case round =>
    obtain ⟨k, xs, ss, hk, rfl, HS, h6, rfl, hown, HX, hz, hbel⟩ := hrel
    by_cases hlt : k < ns.length
    · obtain ⟨b, off, rfl, hc⟩ := H.out (by omega)
      obtain ⟨c1, c2, kv, c3, hkv⟩ := (hc k hlt).keep hbel
      have hsn := names_snoc ns k hlt
      rw [← HS.out] at hsn
      have hle := names_le ns (k + 1)
      rw [hsn] at hle
      have HSN : Hid (namesOf (ns.take (k + 1)) = addName ss ns[k]) := hsn
      have HLE : Hid ((addName ss ns[k]).length ≤ (namesOf ns).length) := hle
      obtain ⟨ka, kc, rfl, _, _, _⟩ := hkv
      clear hc H hsn hle
      generalize ns[k] = nd at *
      have hlt' : (k : Int) < ns.length := by omega
      by_cases h5 : nd.k = 5
      · have hq : (nd.k != 5) = false := by simp [h5]
        have HK5 : Hid (nd.k = 5) := h5
        clear h5
        have hstr := heads_strs hown HX.out h6 6 h6 (by unfold maxLen; omega)
        have hi6 : (ss.length : Int) ≤ 6 := by omega
        have hsl : ∀ W : World, (Instr.sliceAt 151 (.pointer (some ⟨w.heap.size + 1, 0, none⟩)) none (some (.int .i64 (ss.length : Int))) none).run Tryz.prog W = .ok (.slice (some ⟨w.heap.size + 1, 0, none⟩) ss.length 6) W := fun W => by
          rw [run_sliceAt_array_h W 151 ⟨w.heap.size + 1, 0, none⟩ (by kernel_rfl) .i64 _ (by omega) (by rw [show Tryz.prog.arrayLen 151 = 6 from by kernel_rfl]; omega)]
          simp [slicedAt, go_sem]
        cases hh : hasB ss nd.s
        · have HAD : Hid (addName ss nd = ss ++ [nd.s]) := by show _ = _; rw [addName, if_pos ⟨HK5.out, hh⟩]
          by_cases hfull : ss.length = 6
          · have HF : Hid (decide ((namesOf ns).length ≤ 6) = false) := by
              have := HLE.out
              rw [HAD.out] at this
              show _ = false
              simp at this ⊢; omega
            have hq6 : ((ss.length : Int) == 6) = true := by simp; omega
            clear hfull
            go_wp2_with fail
            go_region_with (go_at_call 103; refine (contains_any _ ss nd.s _ ?_).mono ?_; exact hstr.keep (by repeat (first | exact Below.refl _ _ | apply Below.drew | refine Below.alloc ?_ (Nat.le_refl _) _)); rintro e w1 ⟨rfl, rfl⟩)
            go_wp2_with fail
            go_ret
            exact ⟨ret_bool HF.out.symm, by repeat (first | exact hbel | apply Below.drew | refine Below.alloc ?_ hbel.size _)⟩
          · have hq6 : ((ss.length : Int) == 6) = false := by rw [beq_eq_false_iff_ne]; omega
            have hl6 : ss.length < 6 := by omega
            have hxl := hown.1
            have hf := hown.frozenAt ss.length
            have hcl := hown.cellAt ss.length (by omega)
            rw [List.getElem?_eq_getElem (by omega)] at hcl
            have HPUT := hide (heads_put HX.out (by omega) nd.s)
            have HNN : Hid (ss ++ [nd.s] = namesOf (ns.take (k + 1))) := by show _ = _; rw [HSN.out, HAD.out]
            clear hfull
            go_wp2_with fail
            go_region_with (go_at_call 103; refine (contains_any _ ss nd.s _ ?_).mono ?_; exact hstr.keep (by repeat (first | exact Below.refl _ _ | apply Below.drew | refine Below.alloc ?_ (Nat.le_refl _) _)); rintro e w1 ⟨rfl, rfl⟩)
            go_wp2_with fail
            go_roundw
            case rel => exact ⟨k + 1, _, ss ++ [nd.s], by omega, by go_num, HNN, by simp; omega, by simp, ((hown.stored ss.length (.string nd.s)).1.alloc _).drew, HPUT, by show _ < (World.alloc _ _).heap.size; rw [World.size_alloc, size_set]; omega, (bel_alloc (hbel.setCell (p := ⟨_, _, _⟩) (by show w.heap.size ≤ w.heap.size + 1; omega) _) _).drew⟩
            case measure => simp [intOf]; omega
        · have HAD : Hid (ss = namesOf (ns.take (k + 1))) := by show _ = _; rw [HSN.out, addName, if_neg (by simp [hh])]
          go_wp2_with fail
          go_region_with (go_at_call 103; refine (contains_any _ ss nd.s _ ?_).mono ?_; exact hstr.keep (by repeat (first | exact Below.refl _ _ | apply Below.drew | refine Below.alloc ?_ (Nat.le_refl _) _)); rintro e w1 ⟨rfl, rfl⟩)
          go_wp2_with fail
          go_roundw
          case rel => exact ⟨k + 1, xs, ss, by omega, by go_num, HAD, h6, rfl, (hown.alloc _).drew, HX, by show _ < (World.alloc _ _).heap.size; rw [World.size_alloc]; omega, (bel_alloc hbel _).drew⟩
          case measure => simp [intOf]; omega
      · have hq : (nd.k != 5) = true := by simp [h5]
        have HN : Hid (ss = namesOf (ns.take (k + 1))) := by show _ = _; rw [HSN.out, addName, if_neg (by simp [h5])]
        clear h5
        go_wp2_with fail
        go_region
        go_wp2_with fail
        go_roundw
        case rel => exact ⟨k + 1, xs, ss, by omega, by go_num, HN, h6, rfl, (hown.alloc _).drew, HX, by show _ < (World.alloc _ _).heap.size; rw [World.size_alloc]; omega, (bel_alloc hbel _).drew⟩
        case measure => simp [intOf]; omega
    · have HF : Hid (decide ((namesOf ns).length ≤ 6) = true) := by
        have := HS.out
        rw [List.take_of_length_le (by omega)] at this
        show _ = true
        rw [← this]; simp [h6]
      go_wp2_with fail
      go_ret
      exact ⟨ret_bool HF.out.symm, hbel⟩
end Go.Proofs.YtlhhdhmhncjilaaGreat
