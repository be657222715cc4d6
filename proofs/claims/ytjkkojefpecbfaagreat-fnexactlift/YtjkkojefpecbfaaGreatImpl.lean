/- What the program's joinKids answers: the roots with the new node among them, or false; the row of roots alone is written. -/
import Derived.Test.YtjkkojefpecbfaaGreatStA
import Derived.Deep.AppendLies
import Derived.BigQuiet
import Derived.Deep.QuietTactic
namespace Go.Proofs.YtjkkojefpecbfaaGreat
open Go.ChangeShapes Go.WideShapes Go.ChangeAt Go.RowKit

theorem Tryz.results144 : Tryz.f144.results = #[.tmp 8, .tmp 9] := by kernel_rfl
/-- A row of numbers of the call's own. -/
def OwnI (base : Nat) (w : World) (g cap : Nat) (st : List Int) : Prop := w.ownsRow base 3 1 (.slice (some ⟨g, 0, none⟩) st.length cap) st.length (st.map (Value.int .i64))
theorem OwnI.cap {base : Nat} {w : World} {g cap : Nat} {st : List Int} (h : OwnI base w g cap st) : st.length ≤ cap ∧ cap ≤ maxLen := by
  rcases h.2 with ⟨h', _⟩ | ⟨g', cap', cur, h', hb, hg, hnc, hcm, hcs, htake⟩
  · simp at h'
  · simp only [Value.slice.injEq, Option.some.injEq, Addr.mk.injEq, and_true, true_and] at h'
    obtain ⟨rfl, rfl⟩ := h'
    exact ⟨hnc, hcm⟩
theorem OwnI.keep {base : Nat} {w w' : World} {g cap : Nat} {st : List Int} (h : OwnI base w g cap st) (hb : Below w.heap.size w w') : OwnI base w' g cap st := row_keep hb h
theorem ownsRow_drewN' {w : World} {base : Nat} {e : TypeId} {size : Nat} {v : Value} {n : Nat} {xs : List Value} (h : w.ownsRow base e size v n xs) (m : Nat) : (w.drewN m).ownsRow base e size v n xs := h
/-- A part of it from a place on, as it is sliced. -/
theorem OwnI.drop {base : Nat} {w : World} {g cap : Nat} {st : List Int} (h : OwnI base w g cap st) (lo : Nat) (hlo : lo ≤ st.length) :
    ∃ a, sliced (some ⟨g, 0, none⟩) lo st.length cap 1 = .slice a (st.length - lo) (cap - lo) ∧ IntsAt w (.slice a (st.length - lo) (cap - lo)) (st.drop lo) := by
  have hcap := h.cap
  have hl : (st.drop lo).length = st.length - lo := by simp
  refine ⟨_, rfl, _, cap - lo, by rw [hl], by omega, by omega, fun h0 => ?_⟩
  have hne : ¬ cap = lo := by omega
  refine ⟨g, lo, by simp [hne, Addr.add]; intro h; omega, fun j hj => ?_⟩
  rw [World.ownsRow.cellAt h (lo + j) (by omega)]
  simp
theorem OwnI.take {base : Nat} {w : World} {g cap : Nat} {st : List Int} (h : OwnI base w g cap st) (lo : Nat) (hlo : lo ≤ st.length) : w.ownsRow base 3 1 (.slice (some ⟨g, 0, none⟩) lo cap) lo ((st.take lo).map (Value.int .i64)) := by
  obtain ⟨h1, h2⟩ := h
  rcases h2 with ⟨h', _⟩ | ⟨g', cap', cur, h', hb, hg, hnc, hcm, hcs, htake⟩
  · simp at h'
  · simp only [Value.slice.injEq, Option.some.injEq, Addr.mk.injEq, and_true, true_and] at h'
    obtain ⟨rfl, rfl⟩ := h'
    refine ⟨by simp; omega, .inr ⟨g, cap, cur, rfl, hb, hg, by omega, hcm, hcs, ?_⟩⟩
    rw [List.map_take, ← htake, List.take_take]; congr 1; omega
theorem OwnI.lt {base : Nat} {w : World} {g cap : Nat} {st : List Int} (h : OwnI base w g cap st) : base ≤ g ∧ g < w.heap.size := World.ownsRow.lt h g rfl

set_option maxHeartbeats 1000000 in
theorem joinKids_bad (st ks : List Int) (base g cap : Nat) (i c : Int) (kv : Value) (w : World) (hown : OwnI base w g cap st) (hk : IntsAt w kv ks) (hc1 : -1 ≤ c) (hc3 : c ≤ 3) (hst : st.length ≤ 1048576)
    (hbad : c < 0 ∨ (st.length : Int) < c ∨ ks ≠ st.drop (st.length - c.toNat)) :
    Calls Tryz.prog 144 #[.slice (some ⟨g, 0, none⟩) st.length cap, .int .i64 i, kv, .int .i64 c] w fun e w' => e = .returned (.tuple #[.slice none 0 0, .bool false]) ∧ ∃ n, w' = w.drewN n := by
  have HK := hide hk
  obtain ⟨ka, kc, rfl, _, _, _⟩ := hk
  have hw1 : IntKind.i64.wrap ((st.length : Int) - c) = (st.length : Int) - c := by rw [IntKind.wrap_i64]; omega
  by_cases h1 : c < 0
  · have d1 : decide (c < 0) = true := by simp [h1]
    clear hbad h1
    go_enter Tryz.func144, Tryz.ntmps144
    go_wp2_with fail
    refine bodyPost_ret (results_tmp2 Tryz.results144 _ _ _) rfl ?_
    exact ⟨rfl, 0, rfl⟩
  have d1 : decide (c < 0) = false := by simp; omega
  by_cases h2 : (st.length : Int) < c
  · have d2 : decide ((st.length : Int) - c < 0) = true := by simp; omega
    clear hbad h1 h2
    go_enter Tryz.func144, Tryz.ntmps144
    go_wp2_with fail
    refine bodyPost_ret (results_tmp2 Tryz.results144 _ _ _) rfl ?_
    exact ⟨rfl, 0, rfl⟩
  have d2 : decide ((st.length : Int) - c < 0) = false := by simp; omega
  obtain ⟨lo, hlo⟩ : ∃ lo : Nat, (st.length : Int) - c = (lo : Int) := ⟨st.length - c.toNat, by omega⟩
  have hlo2 : lo ≤ st.length := by omega
  have HD : Hid (decide (ks = st.drop lo) = false) := by
    show _ = false
    rcases hbad with h | h | h
    · omega
    · omega
    · rw [show st.length - c.toNat = lo from by omega] at h; simp [h]
  obtain ⟨a, ha, hrow⟩ := hown.drop lo hlo2
  have HROW := hide hrow
  have hsl : ∀ W : World, (Instr.slice 65 (.slice (some ⟨g, 0, none⟩) st.length cap) (some (.int .i64 (lo : Int))) none none).run Tryz.prog W = .ok (.slice a (st.length - lo) (cap - lo)) W := fun W => by
    rw [run_slice_l W 65 (some ⟨g, 0, none⟩) st.length cap (by kernel_rfl) .i64 (lo : Int) (by omega) (by omega), ← ha]
    simp [go_sem]
  rw [hlo] at hw1 d2
  clear hbad h1 h2 ha hrow
  go_enter Tryz.func144, Tryz.ntmps144
  go_wp2_with (go_at_call 184; refine (equal_any _ _ ks (st.drop lo) _ HK.out HROW.out).mono ?_; rintro e w3 ⟨rfl, n, rfl⟩; rw [HD.out])
  refine bodyPost_ret (results_tmp2 Tryz.results144 _ _ _) rfl ?_
  exact ⟨rfl, _, rfl⟩

set_option maxHeartbeats 1000000 in
theorem joinKids_good (st ks : List Int) (base g cap lo : Nat) (i c : Int) (kv : Value) (w : World) (hown : OwnI base w g cap st) (hk : IntsAt w kv ks) (hc1 : 0 ≤ c) (hc3 : c ≤ 3) (hst : st.length ≤ 1048576)
    (hlo : (st.length : Int) - c = (lo : Int)) (heq : ks = st.drop lo) :
    Calls Tryz.prog 144 #[.slice (some ⟨g, 0, none⟩) st.length cap, .int .i64 i, kv, .int .i64 c] w fun e w' => ∃ g' cap', e = .returned (.tuple #[.slice (some ⟨g', 0, none⟩) (st.take lo ++ [i]).length cap', .bool true]) ∧ OwnI base w' g' cap' (st.take lo ++ [i]) ∧ Below base w w' ∧ w.grownBy w' (some g) := by
  obtain ⟨i3, hi3, hz3, hs3, hb3⟩ := info_parts Tryz.info3
  have HK := hide hk
  obtain ⟨ka, kc, rfl, _, _, _⟩ := hk
  have hw1 : IntKind.i64.wrap ((st.length : Int) - c) = (st.length : Int) - c := by rw [IntKind.wrap_i64]; omega
  have d1 : decide (c < 0) = false := by simp; omega
  have d2 : decide ((st.length : Int) - c < 0) = false := by simp; omega
  have hlo2 : lo ≤ st.length := by omega
  have HD : Hid (decide (ks = st.drop lo) = true) := by show _ = true; simp [heq]
  obtain ⟨a, ha, hrow⟩ := hown.drop lo hlo2
  have HROW := hide hrow
  obtain ⟨hcap1, hcap2⟩ := hown.cap
  obtain ⟨hlt1, hlt2⟩ := hown.lt
  have hsl : ∀ W : World, (Instr.slice 65 (.slice (some ⟨g, 0, none⟩) st.length cap) (some (.int .i64 (lo : Int))) none none).run Tryz.prog W = .ok (.slice a (st.length - lo) (cap - lo)) W := fun W => by
    rw [run_slice_l W 65 (some ⟨g, 0, none⟩) st.length cap (by kernel_rfl) .i64 (lo : Int) (by omega) (by omega), ← ha]
    simp [go_sem]
  have hsh : ∀ W : World, (Instr.slice 65 (.slice (some ⟨g, 0, none⟩) st.length cap) none (some (.int .i64 (lo : Int))) none).run Tryz.prog W = .ok (.slice (some ⟨g, 0, none⟩) lo cap) W := fun W => by
    rw [run_slice_h W 65 (some ⟨g, 0, none⟩) st.length cap (by kernel_rfl) .i64 (lo : Int) (by omega) (by omega)]
    simp [sliced, go_sem]
  have HT := hide (hown.take lo hlo2)
  have HL : Hid ((st.take lo ++ [i]).length = lo + 1) := by show _ = _; simp; omega
  have hL3 : (lo + 1) * 8 ≤ 140737488355328 := by omega
  rw [hlo] at hw1 d2
  rw [HL.out]
  have HCP := hide hcap2
  clear ha hrow heq hcap2
  go_enter Tryz.func144, Tryz.ntmps144
  go_wp2_with (first
    | (go_at_call 184; refine (equal_any _ _ ks (st.drop lo) _ HK.out HROW.out).mono ?_; rintro e w3 ⟨rfl, n, rfl⟩; rw [HD.out])
    | (at_builtin; refine wpList_append_lies _ rfl _ _ 65 rfl base 3 i3 (.int .i64 0) 1 8 Tryz.underlying65 hi3 hz3 hs3 hb3 rfl (by omega) (.slice (some ⟨g, 0, none⟩) lo cap) lo ((st.take lo).map (Value.int .i64)) rfl ((ownsRow_drewN' HT.out n).alloc _) ⟨w.heap.size, 0, none⟩ 1 1 [.int .i64 i] rfl rfl ?c1 ?c2 (by omega) ?c3 ?c4 ?c5 (w.heap.size + 1) (by simp) ?_))
  case c1 => exact cell_one_new _ _ _
  case c2 => first | rfl | (intro u hu; simp at hu; subst hu; rfl)
  case c3 => unfold maxLen; omega
  case c4 => omega
  case c5 => simp; omega
  intro g4 cap4 w4 hown4 hgrow4 hat4 hlt4
  go_wp2_with fail
  refine bodyPost_ret (results_tmp2 Tryz.results144 _ _ _) rfl ?_
  refine ⟨g4, cap4, rfl, ?_, ?_, ?_⟩
  · unfold OwnI; rw [HL.out, List.map_append, List.map_take]; exact hown4
  · exact ((below_drewN (Below.refl _ _) n).alloc (by show base ≤ w.heap.size; omega) _).grown hgrow4 (by simp; omega) (fun k hk => by simp [Value.ownBlock] at hk; omega)
  · exact (grown_of ((below_drewN (Below.refl _ w) n).alloc (Nat.le_refl _) (.cells #[.int .i64 i] 3))).but _ |>.trans hgrow4
end Go.Proofs.YtjkkojefpecbfaaGreat

/- What the program's LevelOk answers: whether the nodes make a valid level; nothing that was there is written. -/
namespace Go.Proofs.YtjkkojefpecbfaaGreat
open Go.ChangeShapes Go.WideShapes Go.ChangeAt Go.RowKit

/-- One step of the walk over the nodes, in the words of the program. -/
theorem step_none1 {st : List Int} {i : Nat} {nd : Nd} (h : kidsN nd.k < 0 ∨ (st.length : Int) < kidsN nd.k ∨ fieldsB nd = false ∨ nd.kids ≠ st.drop (st.length - (kidsN nd.k).toNat)) : stepN st i nd = none := by rw [stepN, if_pos h]
theorem step_some {st : List Int} {i : Nat} {nd : Nd} (h1 : 0 ≤ kidsN nd.k) (h2 : kidsN nd.k ≤ st.length) (h3 : fieldsB nd = true) (h4 : nd.kids = st.drop (st.length - (kidsN nd.k).toNat)) :
    stepN st i nd = some (st.take (st.length - (kidsN nd.k).toNat) ++ [(i : Int)]) := by
  rw [stepN, if_neg]
  rintro (h | h | h | h)
  · omega
  · omega
  · rw [h3] at h; cases h
  · exact h h4
theorem lvl_false (ns : List Nd) (i : Nat) (hi : i < ns.length) (st : List Int) (hr : runTo ns i = some st) (hs : stepN st i ns[i] = none) : lvlB ns = false := by
  have h1 := runTo_succ ns i hi st hr
  rw [hs] at h1
  have h2 := runTo_none ns (i + 1) ns.length (by omega) h1
  simp [lvlB, h2]

set_option maxHeartbeats 2000000 in
set_option maxRecDepth 20000 in
theorem implLevelOk_any (v : Value) (ns : List Nd) (w : World) (hns : NodesAt w v ns) (hsz : ∀ nd ∈ ns, nd.s.size ≤ maxLen) :
    Calls Tryz.prog 121 #[.agg #[v]] w fun e w' => e = .returned (.bool (lvlB ns)) ∧ Below w.heap.size w w' := by
  obtain ⟨i3, hi3, hz3, hs3, hb3⟩ := info_parts Tryz.info3
  have HNS := hide hns
  obtain ⟨a, cap, rfl, hl, hm, hc⟩ := hns
  unfold maxLen at hm
  have H : Hid (0 < ns.length → ∃ b off, a = some ⟨b, off, none⟩ ∧ ∀ i (h : i < ns.length), NodeAt w b (off + i * 3) ns[i]) := hc
  have HZ : Hid (∀ nd ∈ ns, nd.s.size ≤ maxLen) := hsz
  clear hc hsz
  by_cases h64 : 64 < ns.length
  · have HF : Hid (lvlB ns = false) := by show _ = false; simp [lvlB]; omega
    have hq64 : decide (64 < (ns.length : Int)) = true := by simp; omega
    go_enter Tryz.func121, Tryz.ntmps121
    go_wp2_with fail
    go_ret
    exact ⟨ret_bool HF.out.symm, (Below.refl _ _).alloc (Nat.le_refl _) _⟩
  have hq64 : decide (64 < (ns.length : Int)) = false := by simp; omega
  have hbox : (w.alloc (.cells #[.slice a ns.length cap] 111)).cell? ⟨w.heap.size, 0, none⟩ = some (.slice a ns.length cap) := by simp [go_sem]
  have HBX := hide hbox
  clear hbox
  go_enter Tryz.func121, Tryz.ntmps121
  go_wp2_with (
    at_make
    refine wpList_make_own _ rfl _ _ 65 rfl (w.heap.size + 1) 3 i3 (.int .i64 0) 1 Tryz.underlying65 hi3 hz3 hs3 .i64 .i64 (64 : Int) 64 rfl rfl (by simp) (by rw [hb3]; omega) (by unfold maxLen; omega) (by simp) ?_
    intro w1 hown1 hgrow1
    have hb01 : Below (w.heap.size + 1) (w.alloc (.cells #[.slice a ns.length cap] 111)) w1 := (Below.refl _ _).grown hgrow1 (by simp) (fun k hk => by cases hk)
    have hx1 := keep_cell (hb01.mono (by simp)) HBX.out
    have HB1 := hide ((bel_alloc (Below.refl w.heap.size w) (.cells #[.slice a ns.length cap] 111)).trans (hb01.mono (by omega)))
    have HO1 := hide hown1
    clear hown1 hgrow1 hb01)
  go_loopw [3, 4, 15] (fun o r i wr => ∃ (k g gc : Nat) (st : List Int), k ≤ ns.length ∧ i = .int .i64 k ∧ o = .bool true ∧ Hid (runTo ns k = some st) ∧ st.length ≤ k ∧ r = .slice (some ⟨g, 0, none⟩) st.length gc ∧ Hid (OwnI (w.heap.size + 1) wr g gc st) ∧ wr.cell? ⟨w.heap.size, 0, none⟩ = some (.slice a ns.length cap) ∧ Hid (Below w.heap.size w wr)) (fun _ _ i _ => ns.length - (intOf i).toNat)
  case atStart => exact ⟨0, _, _, [], by omega, rfl, rfl, rfl, by simp, rfl, by show OwnI _ _ _ _ _; have := HO1.out; simpa [OwnI] using this, hx1, HB1.out⟩
  case round =>
    obtain ⟨k, g, gc, st, hk, rfl, rfl, HR, hsk, rfl, HO, hbox, HBL⟩ := hrel
    clear HBX HO1 HB1 hx1
    have hbs := HBL.out.size
    by_cases hlt : k < ns.length
    · obtain ⟨b, off, rfl, hc⟩ := H.out (by omega)
      obtain ⟨c1, c2, kv, c3, hkv0⟩ := hc k hlt
      have HKW := hide hkv0
      have c1 := keep_cell HBL.out c1
      have c2 := keep_cell HBL.out c2
      have c3 := keep_cell HBL.out c3
      have hkv := hkv0.keep HBL.out
      clear hkv0
      have HNO := hide (lvl_false ns k hlt st HR.out)
      have HGO := hide (runTo_succ ns k hlt st HR.out)
      have hs := HZ.out ns[k] (by simp)
      have HKV := hide hkv
      obtain ⟨ka, kc, rfl, _, _, _⟩ := hkv
      clear hc H
      generalize ns[k] = nd at *
      have hlt' : (k : Int) < ns.length := by omega
      have hgl := HO.out.lt
      have HGL := hide hgl
      have hbg : Hid (Below wr.heap.size wr (wr.alloc (.cells #[.int .i64 nd.k, .string nd.s, .slice ka nd.kids.length kc] 174))) := bel_alloc (Below.refl _ _) _
      have HKV1 := hide (HKV.out.keep hbg.out)
      have HO1 := hide (HO.out.keep hbg.out)
      have hkr := kidsN_cases nd.k
      have hc1 : -1 ≤ kidsN nd.k := by omega
      have hc3 : kidsN nd.k ≤ 3 := by omega
      have hst : st.length ≤ 1048576 := by omega
      clear hkr hgl
      by_cases hbad : kidsN nd.k < 0 ∨ (st.length : Int) < kidsN nd.k ∨ nd.kids ≠ st.drop (st.length - (kidsN nd.k).toNat)
      · have HF : Hid (lvlB ns = false) := HNO.out (step_none1 (by rcases hbad with h | h | h <;> simp [h]))
        have HBAD := hide hbad
        clear hbad
        go_wp2_with fail
        go_region_with (first
          | (go_at_call 164; refine (levelKids_any _ _).mono ?_; rintro e w' ⟨rfl, rfl⟩)
          | (go_at_call 144; refine (joinKids_bad st nd.kids (w.heap.size + 1) g gc (k : Int) (kidsN nd.k) _ _ ?_ ?_ hc1 hc3 hst HBAD.out).mono ?_; exact HO1.out.keep (by repeat (first | exact Below.refl _ _ | apply Below.drew)); exact HKV1.out.keep (by repeat (first | exact Below.refl _ _ | apply Below.drew)); rintro e w3 ⟨rfl, n, rfl⟩)
          | fail)
        all_goals
          go_wp2_with fail
          go_ret
          exact ⟨ret_bool HF.out.symm, below_drewN (HBL.out.trans (hbg.out.mono hbs)) _⟩
      · obtain ⟨lo, hlo⟩ : ∃ lo : Nat, (st.length : Int) - kidsN nd.k = (lo : Int) := ⟨st.length - (kidsN nd.k).toNat, by omega⟩
        have hlo2 : lo ≤ st.length := by omega
        have hcn : 0 ≤ kidsN nd.k := by omega
        have heq : nd.kids = st.drop lo := by
          rw [show st.length - (kidsN nd.k).toNat = lo from by omega] at hbad
          simp at hbad; exact hbad.2.2
        have hcs : kidsN nd.k ≤ (st.length : Int) := by omega
        have HSS := hide (fun h3 : fieldsB nd = true => step_some (i := k) hcn hcs h3 (by rw [show st.length - (kidsN nd.k).toNat = lo from by omega]; exact heq))
        have HLE : Hid (st.length - (kidsN nd.k).toNat = lo) := by show _ = _; omega
        have HLEN : Hid ((st.take lo ++ [(k : Int)]).length = lo + 1) := by show _ = _; simp; omega
        have HLO := hide hlo
        have HEQ := hide heq
        have HGL2 : Hid (¬ wr.heap.size = g) := by show ¬ _; have := HGL.out; omega
        have HHB : Hid (¬ w.heap.size = g) := by show ¬ _; have := HGL.out; omega
        clear hbad hlo heq
        cases hF : fieldsB nd
        · have HF : Hid (lvlB ns = false) := HNO.out (step_none1 (.inr (.inr (.inl hF))))
          go_wp2_with fail
          go_region_with (first
            | (go_at_call 164; refine (levelKids_any _ _).mono ?_; rintro e w' ⟨rfl, rfl⟩)
            | (go_at_call 144; refine (joinKids_good st nd.kids (w.heap.size + 1) g gc lo (k : Int) (kidsN nd.k) _ _ ?_ ?_ hcn hc3 hst HLO.out HEQ.out).mono ?_; exact HO1.out.keep (by repeat (first | exact Below.refl _ _ | apply Below.drew)); exact HKV1.out.keep (by repeat (first | exact Below.refl _ _ | apply Below.drew)); rintro e w3 ⟨g3, gc3, rfl, ho3, hb3', hgr3⟩
               have m1 := hgr3.cell_far ⟨wr.heap.size, 0, none⟩ (by simp) (by simp; exact HGL2.out)
               have m2 := hgr3.cell_far ⟨wr.heap.size, 1, none⟩ (by simp) (by simp; exact HGL2.out)
               have m3 := hgr3.cell_far ⟨wr.heap.size, 2, none⟩ (by simp) (by simp; exact HGL2.out)
               simp [go_sem] at m1 m2 m3)
            | fail)
          all_goals
            have hbw3 := (below_drewN (HBL.out.trans (hbg.out.mono hbs)) 1).trans (hb3'.mono (by omega))
            have HKV3 := hide (HKW.out.keep hbw3)
            go_wp2_with (go_at_call 165; refine (levelFieldsOk_any nd _ _ hs HKV3.out).mono ?_; rintro e w4 ⟨rfl, hb4⟩; rw [hF])
            go_ret
            exact ⟨ret_bool HF.out.symm, hbw3.trans (hb4.mono hbw3.size)⟩
        · have HN : Hid (runTo ns (k + 1) = some (st.take lo ++ [(k : Int)])) := by
            show _ = _
            rw [HGO.out, HSS.out hF, HLE.out]
          go_wp2_with fail
          go_region_with (first
            | (go_at_call 164; refine (levelKids_any _ _).mono ?_; rintro e w' ⟨rfl, rfl⟩)
            | (go_at_call 144; refine (joinKids_good st nd.kids (w.heap.size + 1) g gc lo (k : Int) (kidsN nd.k) _ _ ?_ ?_ hcn hc3 hst HLO.out HEQ.out).mono ?_; exact HO1.out.keep (by repeat (first | exact Below.refl _ _ | apply Below.drew)); exact HKV1.out.keep (by repeat (first | exact Below.refl _ _ | apply Below.drew)); rintro e w3 ⟨g3, gc3, rfl, ho3, hb3', hgr3⟩
               have m1 := hgr3.cell_far ⟨wr.heap.size, 0, none⟩ (by simp) (by simp; exact HGL2.out)
               have m2 := hgr3.cell_far ⟨wr.heap.size, 1, none⟩ (by simp) (by simp; exact HGL2.out)
               have m3 := hgr3.cell_far ⟨wr.heap.size, 2, none⟩ (by simp) (by simp; exact HGL2.out)
               simp [go_sem] at m1 m2 m3)
            | fail)
          all_goals
            have hbw3 := (below_drewN (HBL.out.trans (hbg.out.mono hbs)) 1).trans (hb3'.mono (by omega))
            have HKV3 := hide (HKW.out.keep hbw3)
            have hz3 := hgr3.size
            have hx3 : w3.cell? ⟨w.heap.size, 0, none⟩ = some (.slice (some ⟨b, off, none⟩) ns.length cap) := by
              rw [hb3'.cell (p := ⟨w.heap.size, 0, none⟩) (by simp)]; exact keep_cell (below_drewN hbg.out 1) hbox
            have HO3 := hide ho3
            clear hgr3 hb3' ho3
            go_wp2_with (go_at_call 165; refine (levelFieldsOk_any nd _ _ hs HKV3.out).mono ?_; rintro e w4 ⟨rfl, hb4⟩; rw [hF])
            go_roundw
            case rel => exact ⟨k + 1, _, _, _, by omega, by go_num, rfl, HN, by rw [HLEN.out]; omega, by rw [HLEN.out], HO3.out.keep hb4, keep_cell hb4 hx3, hbw3.trans (hb4.mono hbw3.size)⟩
            case measure => simp [intOf]; omega
    · have HR2 : Hid (runTo ns ns.length = some st) := by
        have := HR.out
        rwa [show k = ns.length from by omega] at this
      have hlt' : ¬ (k : Int) < ns.length := by omega
      by_cases h1 : st.length = 1
      · have HF : Hid (lvlB ns = decide ((namesOf ns).length ≤ 6)) := by show _ = _; simp [lvlB, HR2.out, h1]; omega
        have hq1 : ((st.length : Int) == 1) = true := beq_iff_eq.2 (by omega)
        clear h1
        go_wp2_with (go_at_call 166; refine (fewParams_any _ ns _ (HNS.out.keep HBL.out) HZ.out).mono ?_; rintro e w2 ⟨rfl, hb2⟩)
        go_ret
        exact ⟨ret_bool HF.out.symm, HBL.out.trans (hb2.mono HBL.out.size)⟩
      · have HF : Hid (lvlB ns = false) := by show _ = _; simp [lvlB, HR2.out, h1]
        have hq1 : ((st.length : Int) == 1) = false := beq_eq_false_iff_ne.2 (by omega)
        clear h1
        go_wp2_with fail
        go_ret
        exact ⟨ret_bool HF.out.symm, HBL.out⟩
end Go.Proofs.YtjkkojefpecbfaaGreat
