/- What the counting, copying and comparing of rows of texts answers. -/
import Derived.Test.YtdbepifdmcjjpaaGreatNames
import Derived.Test.YtdbepifdmcjjpaaGreatEq
namespace Go.Proofs.YtdbepifdmcjjpaaGreat
open Go.ChangeShapes Go.WideShapes Go.ChangeAt Go.RowKit

def strSum : List ByteArray → Nat
  | [] => 0
  | s :: l => s.size + strSum l
theorem strSum_append (a b : List ByteArray) : strSum (a ++ b) = strSum a + strSum b := by
  induction a with
  | nil => simp [strSum]
  | cons x a ih => simp [strSum, ih]; omega
theorem strSum_snoc (ss : List ByteArray) (i : Nat) (h : i < ss.length) : strSum (ss.take (i + 1)) = strSum (ss.take i) + ss[i].size := by
  rw [List.take_succ_eq_append_getElem h, strSum_append]; simp [strSum]
theorem strSum_le (ss : List ByteArray) (i : Nat) : strSum (ss.take i) ≤ strSum ss := by
  conv => rhs; rw [← List.take_append_drop i ss, strSum_append]
  omega

theorem ownsRow_strs {w : World} {base g n cap : Nat} {e : TypeId} {xs : List Value} {ss : List ByteArray} (h : w.ownsRow base e 1 (.slice (some ⟨g, 0, none⟩) n cap) n xs) (hn : n = ss.length) (hx : ∀ j (h : j < ss.length), xs[j]? = some (.string ss[j])) :
    StrsAt w (.slice (some ⟨g, 0, none⟩) n cap) ss := by
  subst hn
  rcases h.2 with ⟨h', _⟩ | ⟨g', cap', cur, h', _, hg, hnc, hcm, hcs, htake⟩
  · simp at h'
  · simp only [Value.slice.injEq, Option.some.injEq, Addr.mk.injEq, and_true, true_and] at h'
    obtain ⟨rfl, rfl⟩ := h'
    exact ⟨_, _, rfl, hnc, hcm, fun _ => ⟨g, 0, rfl, fun j hj => by rw [Nat.zero_add, h.cellAt j (by omega)]; exact hx j hj⟩⟩

set_option maxHeartbeats 1000000 in
theorem eqStringS_any (v1 v2 : Value) (ks : List ByteArray) (w : World) (h1 : StrsAt w v1 ks) (h2 : StrsAt w v2 ks) :
    Calls Tryz.prog 17 #[v1, v2] w fun e w' => e = .returned (.bool true) ∧ ∃ n, w' = w.drewN n := by
  obtain ⟨a1, cap1, rfl, hl1, hm1, hc1⟩ := h1
  obtain ⟨a2, cap2, rfl, hl2, hm2, hc2⟩ := h2
  unfold maxLen at hm1 hm2
  have H1 := hide hc1
  have H2 := hide hc2
  clear hc1 hc2
  go_enter Tryz.func17, Tryz.ntmps17
  go_wp2_with fail
  go_loopw [5] (fun i wr => ∃ (k : Nat) (n : Nat), k ≤ ks.length ∧ i = .int .i64 k ∧ wr = w.drewN n) (fun i _ => ks.length - (intOf i).toNat)
  case atStart => exact ⟨0, 0, by omega, rfl, rfl⟩
  case round =>
    obtain ⟨k, n, hk, rfl, rfl⟩ := hrel
    by_cases hlt : k < ks.length
    · obtain ⟨b1, o1, rfl, c1⟩ := H1.out (by omega)
      obtain ⟨b2, o2, rfl, c2⟩ := H2.out (by omega)
      have d1 := c1 k hlt
      have d2 := c2 k hlt
      have hlt' : (k : Int) < ks.length := by omega
      clear c1 c2 H1 H2
      generalize ks[k] = q at *
      go_wp2_with fail
      go_region
      go_wp2_with fail
      go_roundw
      case rel => exact ⟨k + 1, _, by omega, by go_num, rfl⟩
      case measure => simp [intOf]; omega
    · go_wp2_with fail
      go_ret
      exact ⟨rfl, n, rfl⟩

theorem row_form4 {w : World} {base : Nat} {e : TypeId} {size : Nat} {v : Value} {n : Nat} {xs : List Value} (h : w.ownsRow base e size v n xs) : ∃ a cap, v = .slice a n cap := by
  rcases h.2 with ⟨rfl, rfl⟩ | ⟨g, cap, _, rfl, _⟩
  · exact ⟨_, _, rfl⟩
  · exact ⟨_, _, rfl⟩

set_option maxHeartbeats 2000000 in
theorem levelParams_any (v : Value) (ns : List Nd) (w : World) (hns : NodesAt w v ns) (hl : ns.length ≤ 64) :
    Calls Tryz.prog 33 #[.agg #[v]] w fun e w' => ∃ v', e = .returned v' ∧ StrsAt w' v' (namesOf ns) ∧ Below w.heap.size w w' := by
  obtain ⟨i0, hi, hz0, hz1, hz2⟩ := info_parts Tryz.info9
  obtain ⟨a, cap, rfl, hlc, hcm, hc⟩ := hns
  unfold maxLen at hcm
  have H := hide hc
  clear hc
  have HEND : Hid (namesOf (ns.take ns.length) = namesOf ns) := by show _ = _; rw [List.take_of_length_le (by omega)]
  go_enter Tryz.func33, Tryz.ntmps33
  go_wp2_with fail
  go_loopw [3, 9] (fun o i wr => ∃ (k : Nat) (ss : List ByteArray), k ≤ ns.length ∧ i = .int .i64 k ∧ Hid (ss = namesOf (ns.take k)) ∧ ss.length ≤ k ∧ wr.ownsRow w.heap.size 9 1 o ss.length (ss.map Value.string) ∧ Below w.heap.size w wr) (fun _ i _ => ns.length - (intOf i).toNat)
  case atStart => exact ⟨0, [], by omega, rfl, rfl, by simp, ⟨rfl, .inl ⟨rfl, rfl⟩⟩, bel_alloc (Below.refl _ _) _⟩
  case round =>
    obtain ⟨k, ss, hk, rfl, HS, hsl, hown, hbel⟩ := hrel
    have hstr := row_strs hown
    by_cases hlt : k < ns.length
    · obtain ⟨b, off, rfl, hcc⟩ := H.out (by omega)
      obtain ⟨c1, c2, kv, c3, hkv⟩ := (hcc k hlt).keep hbel
      have hsn := names_snoc ns k hlt
      rw [← HS.out] at hsn
      have HSN := hide hsn
      obtain ⟨ka, kc, rfl, _, _, _⟩ := hkv
      clear hcc hsn
      generalize ns[k] = nd at *
      have hlt' : (k : Int) < ns.length := by omega
      have HST := hide hstr
      obtain ⟨oa, oc, rfl, _, _, _⟩ := hstr
      by_cases h5 : nd.k = 5
      · have hq : (nd.k == 5) = true := beq_iff_eq.2 h5
        cases hh : hasB ss nd.s
        · have HAD : Hid (ss ++ [nd.s] = namesOf (ns.take (k + 1))) := by show _ = _; rw [HSN.out, addName, if_pos ⟨h5, hh⟩]
          clear h5 HSN HS
          go_wp2_with (first
            | (go_at_call 58; refine (contains_any _ ss nd.s _ (HST.out.keep (bel_alloc (Below.refl _ _) _))).mono ?_; rintro e w1 ⟨rfl, rfl⟩; rw [hh])
            | (at_builtin; refine wpList_append_own _ rfl _ _ 37 rfl w.heap.size 9 i0 (.string ⟨#[]⟩) 1 16 Tryz.underlying37 hi hz0 hz1 hz2 rfl (by decide) _ _ _ rfl ((hown.alloc _).alloc _) ⟨_, 0, none⟩ 1 1 [.string nd.s] rfl rfl ?c1 ?c2 ?c3 ?c4 ?c5 ?_))
          case c1 =>
            intro j u hj
            have h := cell_one_new (wr.alloc (.cells #[.int .i64 nd.k, .string nd.s, .slice ka nd.kids.length kc] 97)) (.string nd.s) 9 j u hj
            rw [World.size_alloc] at h
            exact h
          case c2 => first | rfl | (intro u hu; simp at hu; subst hu; rfl)
          case c3 => unfold maxLen; omega
          case c4 => omega
          case c5 => have := hbel.size; simp; omega
          intro v4 w4 hown4 hgrow4 _
          have hbel4 : Below w.heap.size w w4 := (bel_alloc (bel_alloc hbel _) _).grown hgrow4 (bel_alloc (bel_alloc hbel _) _).size (fun j hj => (hown.lt j hj).1)
          have HOWN4 : Hid (w4.ownsRow w.heap.size 9 1 v4 (ss ++ [nd.s]).length ((ss ++ [nd.s]).map Value.string)) := by
            show World.ownsRow _ _ _ _ _ _ _
            simpa using hown4
          obtain ⟨oa4, oc4, rfl⟩ := row_form4 hown4
          clear hown4 hgrow4 hown
          go_wp2_with fail
          go_roundw
          case rel => exact ⟨k + 1, ss ++ [nd.s], by omega, by go_num, HAD, by simp; omega, HOWN4.out, hbel4⟩
          case measure => simp [intOf]; omega
        · have HAD : Hid (ss = namesOf (ns.take (k + 1))) := by show _ = _; rw [HSN.out, addName, if_neg (by simp [hh])]
          clear h5 HSN HS
          go_wp2_with (go_at_call 58; refine (contains_any _ ss nd.s _ (HST.out.keep (bel_alloc (Below.refl _ _) _))).mono ?_; rintro e w1 ⟨rfl, rfl⟩; rw [hh])
          go_roundw
          case rel => exact ⟨k + 1, ss, by omega, by go_num, HAD, by omega, hown.alloc _, bel_alloc hbel _⟩
          case measure => simp [intOf]; omega
      · have hq : (nd.k == 5) = false := beq_eq_false_iff_ne.2 h5
        have HAD : Hid (ss = namesOf (ns.take (k + 1))) := by show _ = _; rw [HSN.out, addName, if_neg (by simp [h5])]
        clear h5 HSN HS
        go_wp2_with fail
        go_roundw
        case rel => exact ⟨k + 1, ss, by omega, by go_num, HAD, by omega, hown.alloc _, bel_alloc hbel _⟩
        case measure => simp [intOf]; omega
    · have HE : Hid (ss = namesOf ns) := by show _ = _; rw [HS.out, show k = ns.length from by omega, HEND.out]
      obtain ⟨oa, oc, rfl, _, _, _⟩ := hstr
      have HO := hide (row_strs hown)
      clear hown
      go_wp2_with fail
      go_ret
      exact ⟨_, rfl, by rw [← HE.out]; exact HO.out, hbel⟩
end Go.Proofs.YtdbepifdmcjjpaaGreat
