/- What the program's LevelOk answers: whether the nodes make a valid level; nothing that was there is written. -/
import Derived.Test.YtangnlnmneoaoaaFew
namespace Go.Proofs.Ytangnlnmneoaoaa
open Go.ChangeShapes Go.WideShapes Go.ChangeAt Go.RowKit

/-- The first numbers of a row are these. -/
def HeadsI (xs : List Value) (st : List Int) : Prop := ∀ j (h : j < st.length), xs[j]? = some (.int .i64 st[j])
theorem headsI_drop {w : World} {base R n cap : Nat} {e : TypeId} {xs : List Value} {st : List Int} (h : w.ownsRow base e 1 (.slice (some ⟨R, 0, none⟩) n cap) n xs) (hx : HeadsI xs st) (hs : st.length ≤ n) (lo : Nat) (m c : Nat) (hlo : lo ≤ st.length) (hm : m = st.length - lo) (hc : m ≤ c) (hcm : c ≤ maxLen) :
    IntsAt w (.slice (some ⟨R, lo, none⟩) m c) (st.drop lo) := by
  have hl : (st.drop lo).length = m := by simp [hm]
  refine ⟨some ⟨R, lo, none⟩, c, by rw [hl], by omega, hcm, fun _ => ⟨R, lo, rfl, fun j hj => ?_⟩⟩
  rw [h.cellAt (lo + j) (by omega), hx (lo + j) (by omega)]
  simp
theorem headsI_put {xs : List Value} {st : List Int} (hx : HeadsI xs st) (lo : Nat) (hlo : lo ≤ st.length) (hl : lo < xs.length) (q : Int) : HeadsI (xs.set lo (.int .i64 q)) (st.take lo ++ [q]) := by
  intro j hj
  have e1 : (st.take lo).length = lo := by simp; omega
  by_cases e : j = lo
  · subst e; rw [List.getElem?_set_self hl, List.getElem_append_right (by omega)]; simp
  · have hj' : j < lo := by simp at hj; omega
    rw [List.getElem?_set_ne (by omega), hx j (by omega), List.getElem_append_left (by omega)]; simp

/-- One step of the walk over the nodes, in the words of the program. -/
theorem step_none1 {st : List Int} {i : Nat} {nd : Nd} (h : kidsN nd.k < 0 ∨ (st.length : Int) < kidsN nd.k ∨ fieldsB nd = false ∨ nd.kids ≠ st.drop (st.length - (kidsN nd.k).toNat)) : stepN st i nd = none := by rw [stepN, if_pos h]
theorem step_some {st : List Int} {i : Nat} {nd : Nd} (h1 : 0 ≤ kidsN nd.k) (h2 : kidsN nd.k ≤ st.length) (h3 : fieldsB nd = true) (h4 : nd.kids = st.drop (st.length - (kidsN nd.k).toNat)) :
    stepN st i nd = some (st.take (st.length - (kidsN nd.k).toNat) ++ [(i : Int)]) := by
  rw [stepN, if_neg]
  rintro (h | h | h | h)
  · omega
  · omega
  · rw [h3] at h; cases h
  · exact h h4
theorem lvl_false (ns : List Nd) (i : Nat) (hi : i < ns.length) (st : List Int) (hr : runTo ns i = some st) (hs : stepN st i ns[i] = none) : lvlB ns = false := by
  have h1 := runTo_succ ns i hi st hr
  rw [hs] at h1
  have h2 := runTo_none ns (i + 1) ns.length (by omega) h1
  simp [lvlB, h2]

set_option maxHeartbeats 2000000 in
theorem implLevelOk_any (v : Value) (ns : List Nd) (w : World) (hns : NodesAt w v ns) (hsz : ∀ nd ∈ ns, nd.s.size ≤ maxLen) :
    Calls Try.prog 21 #[.agg #[v]] w fun e w' => e = .returned (.bool (lvlB ns)) ∧ Below w.heap.size w w' := by
  have HNS := hide hns
  obtain ⟨a, cap, rfl, hl, hm, hc⟩ := hns
  unfold maxLen at hm
  have H : Hid (0 < ns.length → ∃ b off, a = some ⟨b, off, none⟩ ∧ ∀ i (h : i < ns.length), NodeAt w b (off + i * 3) ns[i]) := hc
  have HZ : Hid (∀ nd ∈ ns, nd.s.size ≤ maxLen) := hsz
  clear hc hsz
  by_cases h0 : ns.length = 0
  · have hq : ((ns.length : Int) == 0) = true := beq_iff_eq.2 (by omega)
    have HF : Hid (lvlB ns = false) := by show _ = false; simp [lvlB, h0]
    clear h0
    go_enter Try.func21, Try.ntmps21
    go_wp2_with fail
    go_ret
    exact ⟨ret_bool HF.out.symm, (Below.refl _ _).alloc (Nat.le_refl _) _⟩
  have hq0 : ((ns.length : Int) == 0) = false := by rw [beq_eq_false_iff_ne]; omega
  by_cases h64 : 64 < ns.length
  · have HF : Hid (lvlB ns = false) := by show _ = false; simp [lvlB]; omega
    have hq64 : decide (64 < (ns.length : Int)) = true := by simp; omega
    go_enter Try.func21, Try.ntmps21
    go_wp2_with fail
    go_ret
    exact ⟨ret_bool HF.out.symm, (Below.refl _ _).alloc (Nat.le_refl _) _⟩
  have hq64 : decide (64 < (ns.length : Int)) = false := by simp; omega
  have hst := World.ownsRow_lit (base := w.heap.size) (e := 75) (size := 1) (w.alloc (.cells #[.slice a ns.length cap] 30)) (Array.replicate 64 (.int .i64 0)) 64 (by simp) (by unfold maxLen; omega) rfl
  rw [World.size_alloc] at hst
  have HST := hide hst
  have hbox : ∀ o, ((w.alloc (.cells #[.slice a ns.length cap] 30)).alloc o).cell? ⟨w.heap.size, 0, none⟩ = some (.slice a ns.length cap) := fun o => by simp [go_sem]
  have HBX := hide hbox
  clear hst hbox
  go_enter Try.func21, Try.ntmps21
  go_wp2_with fail
  go_loopw [4, 21] (fun c i wr => ∃ (k : Nat) (xs : List Value) (st : List Int), k ≤ ns.length ∧ i = .int .i64 k ∧ Hid (runTo ns k = some st) ∧ st.length ≤ k ∧ c = .int .i64 st.length ∧ wr.ownsRow w.heap.size 75 1 (.slice (some ⟨w.heap.size + 1, 0, none⟩) 64 64) 64 xs ∧ Hid (HeadsI xs st) ∧ wr.cell? ⟨w.heap.size, 0, none⟩ = some (.slice a ns.length cap) ∧ w.heap.size + 1 < wr.heap.size ∧ Below w.heap.size w wr) (fun _ i _ => ns.length - (intOf i).toNat)
  case atStart => exact ⟨0, _, [], by omega, rfl, rfl, by simp, rfl, unhide HST, fun j h => by simp at h, unhide HBX _, by simp, ((Below.refl _ _).alloc (Nat.le_refl _) _).alloc (by simp) _⟩
  case round =>
    obtain ⟨k, xs, st, hk, rfl, HR, hsk, rfl, hown, HX, hbox, hz, hbel⟩ := hrel
    clear HST HBX
    by_cases hlt : k < ns.length
    · obtain ⟨b, off, rfl, hc⟩ := H.out (by omega)
      obtain ⟨c1, c2, kv, c3, hkv⟩ := (hc k hlt).keep hbel
      have HNO := hide (lvl_false ns k hlt st HR.out)
      have HGO := hide (runTo_succ ns k hlt st HR.out)
      have hs := HZ.out ns[k] (by simp)
      have HKV := hide hkv
      obtain ⟨ka, kc, rfl, _, _, _⟩ := hkv
      clear hc H
      generalize ns[k] = nd at *
      have hlt' : (k : Int) < ns.length := by omega
      obtain ⟨c, HK⟩ : ∃ c, Hid (kidsN nd.k = c) := ⟨_, rfl⟩
      by_cases hA : c < 0
      · have HF : Hid (lvlB ns = false) := HNO.out (step_none1 (.inl (by rw [HK.out]; exact hA)))
        have dA : decide (c < 0) = true := by simp [hA]
        go_wp2_with (go_at_call 61; refine (levelKids_any _ _).mono ?_; rintro e w' ⟨rfl, rfl⟩; rw [HK.out])
        go_ret
        exact ⟨ret_bool HF.out.symm, bel_alloc hbel _⟩
      have dA : decide (c < 0) = false := by simp; omega
      by_cases hB : (st.length : Int) < c
      · have HF : Hid (lvlB ns = false) := HNO.out (step_none1 (.inr (.inl (by rw [HK.out]; exact hB))))
        have dB : decide ((st.length : Int) < c) = true := by simp [hB]
        go_wp2_with (go_at_call 61; refine (levelKids_any _ _).mono ?_; rintro e w' ⟨rfl, rfl⟩; rw [HK.out])
        go_ret
        exact ⟨ret_bool HF.out.symm, bel_alloc hbel _⟩
      have dB : decide ((st.length : Int) < c) = false := by simp; omega
      cases hF : fieldsB nd
      · have HF : Hid (lvlB ns = false) := HNO.out (step_none1 (.inr (.inr (.inl hF))))
        go_wp2_with (first | (go_at_call 61; refine (levelKids_any _ _).mono ?_; rintro e w' ⟨rfl, rfl⟩; rw [HK.out]) | (go_at_call 62; refine (levelFieldsOk_any nd _ _ hs (HKV.out.keep (bel_alloc (Below.refl _ _) _))).mono ?_; rintro e w2 ⟨rfl, hb2⟩))
        go_ret
        exact ⟨ret_bool HF.out.symm, (bel_alloc hbel _).trans (hb2.mono (by rw [World.size_alloc]; have := hbel.size; omega))⟩
      obtain ⟨cn, hcn⟩ : ∃ cn : Nat, c = cn := ⟨c.toNat, by omega⟩
      subst hcn
      obtain ⟨lo, hlo⟩ : ∃ lo : Nat, (st.length : Int) - (cn : Int) = (lo : Int) := ⟨st.length - cn, by omega⟩
      have hlo2 : lo ≤ st.length := by omega
      have HLO : Hid (st.length - (kidsN nd.k).toNat = lo) := by show _ = _; rw [HK.out]; omega
      have HML : Hid (st.length - lo = cn) := by show _ = _; omega
      have hl63 : lo < 64 := by omega
      have hwr : IntKind.i64.wrap (lo : Int) = (lo : Int) := by rw [IntKind.wrap_i64]; omega
      have hsl : ∀ W : World, (Instr.sliceAt 75 (.pointer (some ⟨w.heap.size + 1, 0, none⟩)) (some (.int .i64 (lo : Int))) (some (.int .i64 (st.length : Int))) none).run Try.prog W = .ok (.slice (some ⟨w.heap.size + 1, lo, none⟩) (st.length - lo) (64 - lo)) W := fun W => by
        rw [run_sliceAt_array_lh W 75 ⟨w.heap.size + 1, 0, none⟩ (by kernel_rfl) .i64 .i64 _ _ (by omega) (by omega) (by rw [show Try.prog.arrayLen 75 = 64 from by kernel_rfl]; omega)]
        have hne : ¬ 64 = lo := by omega
        simp [slicedAt, go_sem, hne]
      have hrow := headsI_drop hown HX.out (by omega) lo (st.length - lo) (64 - lo) hlo2 rfl (by omega) (by unfold maxLen; omega)
      have HROW := hide hrow
      clear hrow
      go_wp2_with (go_at_call 61; refine (levelKids_any _ _).mono ?_; rintro e w' ⟨rfl, rfl⟩; rw [HK.out])
      refine (levelFieldsOk_any nd _ _ hs (HKV.out.keep (bel_alloc (Below.refl _ _) _))).mono ?_
      rintro e w2 ⟨rfl, hb2⟩
      rw [hF]
      obtain ⟨hc, hf⟩ := bcell hb2
      simp only [World.size_alloc] at hc hf
      have hz2 : wr.heap.size < w2.heap.size := by have := hb2.size; simp at this; omega
      have hbelw : Below wr.heap.size wr w2 := (bel_alloc (Below.refl _ _) _).trans (hb2.mono (by simp))
      clear hb2
      have HKV2 := hide (HKV.out.keep hbelw)
      have HROW2 := hide (HROW.out.keep hbelw)
      by_cases hE : nd.kids = st.drop lo
      · have HD : Hid (decide (nd.kids = st.drop lo) = true) := by show _ = true; simp [hE]
        have HN : Hid (runTo ns (k + 1) = some (st.take lo ++ [(k : Int)])) := by
          show _ = _
          rw [HGO.out, step_some (by rw [HK.out]; omega) (by rw [HK.out]; omega) hF (by rw [HLO.out]; exact hE), HLO.out]
        have HLN : Hid ((st.take lo ++ [(k : Int)]).length = lo + 1) := by show _ = _; simp; omega
        have hxl := hown.1
        have HPUT := hide (headsI_put HX.out lo hlo2 (by omega) (k : Int))
        have hown2 := row_keep hbelw hown
        have hrow2 := (hown2.stored lo (.int .i64 (k : Int))).1
        have hf1 := hown2.frozenAt lo
        have hc1 := hown2.cellAt lo (by omega)
        rw [List.getElem?_eq_getElem (by omega)] at hc1
        have hbox2 := keep_cell hbelw hbox
        have HB2 := hide hbox2
        clear hE hown2 hbox2
        go_wp2_with fail
        go_region_with (go_at_call 63; refine (equal_any _ _ nd.kids (st.drop lo) _ ?_ ?_).mono ?_; exact HKV2.out.keep (by repeat (first | exact Below.refl _ _ | apply Below.drew)); exact HROW2.out.keep (by repeat (first | exact Below.refl _ _ | apply Below.drew)); rintro e w3 ⟨rfl, n, rfl⟩; rw [HD.out])
        go_wp2_with fail
        go_roundw
        case rel => exact ⟨k + 1, _, _, by omega, by go_num, HN, by rw [HLN.out]; omega, by rw [HLN.out]; go_num, hrow2, HPUT, by rw [cell_set (by dsimp only; omega)]; exact HB2.out, by rw [size_set]; show _ < w2.heap.size; omega, (below_drewN (hbel.trans (hbelw.mono hbel.size)) _).setCell (p := ⟨_, _, _⟩) (by show w.heap.size ≤ w.heap.size + 1; omega) _⟩
        case measure => simp [intOf]; omega
      · have HF : Hid (lvlB ns = false) := HNO.out (step_none1 (.inr (.inr (.inr (by rw [HLO.out]; exact hE)))))
        have HD : Hid (decide (nd.kids = st.drop lo) = false) := by show _ = false; simp [hE]
        clear hE
        go_wp2_with fail
        go_region_with (go_at_call 63; refine (equal_any _ _ nd.kids (st.drop lo) _ ?_ ?_).mono ?_; exact HKV2.out.keep (by repeat (first | exact Below.refl _ _ | apply Below.drew)); exact HROW2.out.keep (by repeat (first | exact Below.refl _ _ | apply Below.drew)); rintro e w3 ⟨rfl, n, rfl⟩; rw [HD.out])
        go_wp2_with fail
        go_ret
        exact ⟨ret_bool HF.out.symm, below_drewN (hbel.trans (hbelw.mono hbel.size)) _⟩
    · have HR2 : Hid (runTo ns ns.length = some st) := by
        have := HR.out
        rwa [show k = ns.length from by omega] at this
      by_cases h1 : st.length = 1
      · have HF : Hid (lvlB ns = decide ((namesOf ns).length ≤ 6)) := by show _ = _; simp [lvlB, HR2.out, h1]; omega
        have hq1 : ((st.length : Int) == 1) = true := beq_iff_eq.2 (by omega)
        clear h1
        go_wp2_with (go_at_call 64; refine (fewParams_any _ ns _ (HNS.out.keep hbel) HZ.out).mono ?_; rintro e w2 ⟨rfl, hb2⟩)
        go_ret
        exact ⟨ret_bool HF.out.symm, hbel.trans (hb2.mono hbel.size)⟩
      · have HF : Hid (lvlB ns = false) := by show _ = _; simp [lvlB, HR2.out, h1]
        have hq1 : ((st.length : Int) == 1) = false := beq_eq_false_iff_ne.2 (by omega)
        clear h1
        go_wp2_with fail
        go_ret
        exact ⟨ret_bool HF.out.symm, hbel⟩
end Go.Proofs.Ytangnlnmneoaoaa
