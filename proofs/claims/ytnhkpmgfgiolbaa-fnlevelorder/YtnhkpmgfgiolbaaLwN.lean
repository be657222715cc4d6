/- What the laws' lwNode answers: two levels' nodes behind each other, and one node more. -/
import Derived.Test.YtnhkpmgfgiolbaaLwH
namespace Go.Proofs.Ytnhkpmgfgiolbaa
open Go.ChangeShapes Go.WideShapes Go.ChangeAt Go.RowKit

set_option maxRecDepth 20000 in
set_option maxHeartbeats 2000000 in
theorem lwNode_any (v1 v2 : Value) (ns1 ns2 : List Nd) (w : World) (hn1 : NodesAt w v1 ns1) (hn2 : NodesAt w v2 ns2) (hl1 : ns1.length ≤ 64) (hl2 : ns2.length ≤ 64) (hp1 : 0 < ns1.length) (hp2 : 0 < ns2.length) (hk1 : ∀ nd ∈ ns1, nd.kids.length ≤ 2) (hk2 : ∀ nd ∈ ns2, nd.kids.length ≤ 2) (hr2 : ∀ nd ∈ ns2, ∀ k ∈ nd.kids, 0 ≤ k ∧ k < 1000) :
    Calls Try.prog 38 #[.int .i64 3, .agg #[v1], .agg #[v2]] w fun e w' => ∃ g cap, e = .returned (.agg #[.slice (some ⟨g, 0, none⟩) (ns1.length + ns2.length + 1) cap]) ∧ NdRow (w.heap.size + 4) (fun _ => True) w' g cap (ns1 ++ ns2.map (shiftN ns1.length) ++ [⟨3, ⟨#[]⟩, [((ns1.length - 1 : Nat) : Int), ((ns1.length + ns2.length - 1 : Nat) : Int)]⟩]) ∧ Below w.heap.size w w' := by
  obtain ⟨a1, cap1, rfl, hc1, hm1, hn1⟩ := hn1
  obtain ⟨b1, off1, rfl, hN1⟩ := hn1 hp1
  obtain ⟨a2, cap2, rfl, hc2, hm2, hn2⟩ := hn2
  obtain ⟨b2, off2, rfl, hN2⟩ := hn2 hp2
  obtain ⟨i3, hi3, hz3, hs3, hb3⟩ := info_parts Try.info3
  obtain ⟨i87, hi87, hz87, hs87, hb87⟩ := info_parts Try.info87
  have HN1 := hide hN1
  have HN2 := hide hN2
  have HK1 := hide hk1
  have HK2 := hide hk2
  have HR2 := hide hr2
  clear hn1 hn2 hN1 hN2 hk1 hk2 hr2
  unfold maxLen at hm1 hm2
  obtain ⟨W, hW⟩ : ∃ W, W = (((w.alloc (.cells #[.slice (some ⟨b1, off1, none⟩) ns1.length cap1] 30)).alloc (.cells #[.slice (some ⟨b2, off2, none⟩) ns2.length cap2] 30)).alloc (.cells #[.slice none 0 0] 30)).alloc (.cells #[.slice none 0 0] 30) := ⟨_, rfl⟩
  have HS0 : Hid (LwSt w.heap.size (.slice (some ⟨b1, off1, none⟩) ns1.length cap1) (.slice (some ⟨b2, off2, none⟩) ns2.length cap2) none 0 [] w W) := by
    show LwSt _ _ _ _ _ _ _ _
    rw [hW]
    refine ⟨bel_alloc (bel_alloc (bel_alloc (bel_alloc (Below.refl _ _) _) _) _) _, ⟨[], World.ownsRow_nil _ _ _ _, fun i h => by simp at h⟩, ?_, ?_, ?_, ?_, by simp⟩
    · exact ((bel_alloc (bel_alloc (bel_alloc (Below.refl _ _) _) _) _).block _ (by simp)).trans (heap_alloc_new w _)
    · have h := heap_alloc_new (w.alloc (.cells #[.slice (some ⟨b1, off1, none⟩) ns1.length cap1] 30)) (.cells #[.slice (some ⟨b2, off2, none⟩) ns2.length cap2] 30)
      simp only [World.size_alloc] at h
      exact ((bel_alloc (bel_alloc (Below.refl _ _) _) _).block _ (by simp)).trans h
    · have h := heap_alloc_new ((w.alloc (.cells #[.slice (some ⟨b1, off1, none⟩) ns1.length cap1] 30)).alloc (.cells #[.slice (some ⟨b2, off2, none⟩) ns2.length cap2] 30)) (.cells #[.slice none 0 0] 30)
      simp only [World.size_alloc] at h
      exact ((bel_alloc (Below.refl _ _) _).block _ (by simp)).trans h
    · have h := heap_alloc_new (((w.alloc (.cells #[.slice (some ⟨b1, off1, none⟩) ns1.length cap1] 30)).alloc (.cells #[.slice (some ⟨b2, off2, none⟩) ns2.length cap2] 30)).alloc (.cells #[.slice none 0 0] 30)) (.cells #[.slice none 0 0] 30)
      simp only [World.size_alloc] at h
      exact h
  go_enter Try.func38, Try.ntmps38
  go_wp2_with fail
  rw [← hW]
  clear hW
  go_loopw [8, 9] (fun i _ wr => ∃ (j : Nat) (ao : Option Addr) (c : Nat) (ns : List Nd), j ≤ ns1.length ∧ i = .int .i64 j ∧ Hid (ns = ns1.take j) ∧ Hid (LwSt w.heap.size (.slice (some ⟨b1, off1, none⟩) ns1.length cap1) (.slice (some ⟨b2, off2, none⟩) ns2.length cap2) ao c ns w wr)) (fun i _ _ => ns1.length - (intOf i).toNat)
  case atStart => exact ⟨0, none, 0, [], by omega, rfl, rfl, HS0.out⟩
  case round =>
    obtain ⟨j, ao, c, ns, hj, rfl, HNS, HS⟩ := hrel
    clear HS0
    have ca : wr.cell? ⟨w.heap.size, 0, none⟩ = some (.slice (some ⟨b1, off1, none⟩) ns1.length cap1) := by rw [cell_of_row _ _ _ _ _ _ HS.out.ka]; rfl
    have c7 : wr.cell? ⟨w.heap.size + 1 + 1 + 1, 0, none⟩ = some (.slice ao ns.length c) := (cell_of_row _ _ _ _ _ _ HS.out.k7).trans rfl
    by_cases hlt : j < ns1.length
    · have d1 : decide ((j : Int) < (ns1.length : Int)) = true := by simp; omega
      have hlt' : (j : Int) < (ns1.length : Int) := by omega
      obtain ⟨q0, q1, kv, q2, hkv⟩ := HN1.out j hlt
      have q0 := keep_cell HS.out.bel q0
      have q1 := keep_cell HS.out.bel q1
      have q2 := keep_cell HS.out.bel q2
      have hkv := hkv.keep HS.out.bel
      have hkl : ns1[j].kids.length ≤ 2 := HK1.out _ (List.getElem_mem hlt)
      have HND : Hid (ns1.take (j + 1) = ns ++ [ns1[j]]) := by show _ = _; rw [HNS.out]; exact (List.take_append_getElem hlt).symm
      have HLN : Hid (ns.length = j) := by show _ = _; rw [HNS.out, List.length_take]; omega
      generalize ns1[j] = nd at *
      obtain ⟨ka, kc, rfl, hkc1, hkc2, hkv⟩ := hkv
      have HKV := hide hkv
      have hbl := block_lt HS.out.k7
      have hnl : ns.length ≤ 64 := by have := HLN.out; omega
      obtain ⟨W6, hW6⟩ : ∃ W6, W6 = wr.alloc (.cells #[.int .i64 nd.k, .string nd.s, .slice ka nd.kids.length kc] 87) := ⟨_, rfl⟩
      have hb6 : Below wr.heap.size wr W6 := by rw [hW6]; exact bel_alloc (Below.refl _ _) _
      have hs6 : wr.heap.size < W6.heap.size := by rw [hW6]; simp
      have n0 : W6.cell? ⟨wr.heap.size, 0, none⟩ = some (.int .i64 nd.k) := by rw [hW6]; simp [go_sem]
      have n1 : W6.cell? ⟨wr.heap.size, 1, none⟩ = some (.string nd.s) := by rw [hW6]; simp [go_sem]
      have n2 : W6.cell? ⟨wr.heap.size, 2, none⟩ = some (.slice ka nd.kids.length kc) := by rw [hW6]; simp [go_sem]
      have HS6 := hide (HS.out.keep hb6)
      have c76 := keep_cell hb6 c7
      go_upto_region 6 with fail
      rw [← hW6]
      clear hW6 q0 q1 q2 hkv ca c7
      obtain ⟨xs, hox, hxs⟩ := HS6.out.nd
      have HX := hide hxs
      have hO6 : W6.ownsRow (w.heap.size + 4) 87 3 (.slice ao ns.length c) ns.length xs := hox
      have HOX := hide hO6
      have hfz : W6.frozen? ⟨w.heap.size + 1 + 1 + 1, 0, none⟩ = false := frozen_of_row HS6.out.k7
      have h46 := HS6.out.h4
      have HF3 := hide (HS.out.off (b := w.heap.size + 1 + 1 + 1) (.inl (by omega)))
      have HF9 := hide (HS.out.off (b := wr.heap.size) (.inr (Nat.le_refl _)))
      have hne9 : ¬ wr.heap.size = w.heap.size + 1 + 1 + 1 := by omega
      have hne9' : ¬ w.heap.size + 1 + 1 + 1 = wr.heap.size := by omega
      clear HS
      clear hox hxs hO6
      by_cases h0 : nd.kids.length = 0
      · rw [h0] at n2
        have hk0 : nd.kids = [] := List.eq_nil_of_length_eq_zero h0
        have HK := hide (show KidRow (w.heap.size + 4) ((W6.alloc (.cells #[] 3)).alloc (.cells #[.int .i64 nd.k, .string nd.s, .slice (some ⟨W6.heap.size, 0, none⟩) 0 0] 87)).drew (.slice (some ⟨W6.heap.size, 0, none⟩) 0 0) nd.kids from by
          rw [hk0]
          exact own_drew (World.ownsRow.alloc (World.ownsRow_lit (base := w.heap.size + 4) (e := 3) (size := 1) W6 #[] 0 (by simpa using h46) (by unfold maxLen; omega) rfl) _))
        have hS0 : (fun w' : World => w'.cell? ⟨w.heap.size + 1 + 1 + 1, 0, none⟩ = some (.slice ao ns.length c) ∧ w'.cell? ⟨wr.heap.size, 0, none⟩ = some (.int .i64 nd.k) ∧ w'.cell? ⟨wr.heap.size, 1, none⟩ = some (.string nd.s) ∧ w'.cell? ⟨wr.heap.size, 2, none⟩ = some (.slice ka 0 kc)) W6.drew := ⟨c76, n0, n1, n2⟩
        refine anyE_region (L := 14) (S := fun w' : World => w'.cell? ⟨w.heap.size + 1 + 1 + 1, 0, none⟩ = some (.slice ao ns.length c) ∧ w'.cell? ⟨wr.heap.size, 0, none⟩ = some (.int .i64 nd.k) ∧ w'.cell? ⟨wr.heap.size, 1, none⟩ = some (.string nd.s) ∧ w'.cell? ⟨wr.heap.size, 2, none⟩ = some (.slice ka 0 kc)) (by kernel_rfl) ?_
        refine anyE_take 0 (v := ?v1) rfl (by kernel_rfl) (by kernel_rfl) (by kernel_rfl) (by kernel_rfl) (fun _ _ _ h => h) (by rfl) ?hy1 hS0 ?rest1
        case hy1 =>
          intro wx hx
          obtain ⟨s1, s2, s3, s4⟩ := hx
          go_simp
          try rfl
        case rest1 =>
        intro K hK
        go_simp
        refine hK.out _ ?_
        clear hK K
        refine anyE_take 1 (v := ?v2) rfl (by kernel_rfl) (by kernel_rfl) (by kernel_rfl) (by kernel_rfl) (fun _ _ _ h => h) (by rfl) ?hy2 hS0 ?rest2
        case hy2 =>
          intro wx hx
          obtain ⟨s1, s2, s3, s4⟩ := hx
          go_simp
          try rfl
        case rest2 =>
        intro K hK
        go_simp
        refine hK.out _ ?_
        clear hK K
        refine anyE_take 2 (v := ?v3) rfl (by kernel_rfl) (by kernel_rfl) (by kernel_rfl) (by kernel_rfl) (fun _ _ _ h => h) (by rfl) ?hy3 hS0 ?rest3
        case hy3 =>
          intro wx hx
          obtain ⟨s1, s2, s3, s4⟩ := hx
          go_simp
          try rfl
        case rest3 =>
        intro K hK
        go_simp
        refine hK.out _ ?_
        clear hK K
        refine anyE_take 3 (v := ?v4) rfl (by kernel_rfl) (by kernel_rfl) (by kernel_rfl) (by kernel_rfl) (fun _ _ _ h => h) (by rfl) ?hy4 hS0 ?rest4
        case hy4 =>
          intro wx hx
          obtain ⟨s1, s2, s3, s4⟩ := hx
          go_simp
          try rfl
        case rest4 =>
        intro K hK
        go_simp
        refine hK.out _ ?_
        clear hK K
        refine anyE_take 4 (v := ?v5) rfl (by kernel_rfl) (by kernel_rfl) (by kernel_rfl) (by kernel_rfl) (fun _ _ _ h => h) (by rfl) ?hy5 hS0 ?rest5
        case hy5 =>
          intro wx hx
          obtain ⟨s1, s2, s3, s4⟩ := hx
          go_simp
          try rfl
        case rest5 =>
        intro K hK
        go_simp
        refine hK.out _ ?_
        clear hK K
        refine anyE_take 5 (v := ?v6) rfl (by kernel_rfl) (by kernel_rfl) (by kernel_rfl) (by kernel_rfl) (fun _ _ _ h => h) (by rfl) ?hy6 hS0 ?rest6
        case hy6 =>
          intro wx hx
          obtain ⟨s1, s2, s3, s4⟩ := hx
          go_simp
          try rfl
        case rest6 =>
        intro K hK
        go_simp
        refine hK.out _ ?_
        clear hK K
        refine anyE_take 7 (v := ?v7) rfl (by kernel_rfl) (by kernel_rfl) (by kernel_rfl) (by kernel_rfl) (fun _ _ _ h => h) (by rfl) ?hy7 hS0 ?rest7
        case hy7 =>
          intro wx hx
          obtain ⟨s1, s2, s3, s4⟩ := hx
          go_simp
          try rfl
        case rest7 =>
        intro K hK
        go_simp
        refine hK.out _ ?_
        clear hK K
        refine anyE_take 8 (v := ?v8) rfl (by kernel_rfl) (by kernel_rfl) (by kernel_rfl) (by kernel_rfl) (fun _ _ _ h => h) (by rfl) ?hy8 hS0 ?rest8
        case hy8 =>
          intro wx hx
          obtain ⟨s1, s2, s3, s4⟩ := hx
          go_simp
          try rfl
        case rest8 =>
        intro K hK
        go_simp
        refine hK.out _ ?_
        clear hK K
        refine anyE_one 6 (by kernel_rfl) rfl (fun K hK => ?_)
        go_simp
        refine hK.out _ _ (fun _ => ⟨keep_cell ((bel_alloc (Below.refl W6.heap.size W6) _).drew) c76, keep_cell ((bel_alloc (Below.refl W6.heap.size W6) _).drew) n0, keep_cell ((bel_alloc (Below.refl W6.heap.size W6) _).drew) n1, keep_cell ((bel_alloc (Below.refl W6.heap.size W6) _).drew) n2⟩) ?_
        clear hK K
        refine anyE_one 9 (by kernel_rfl) rfl (fun K hK => ?_)
        refine step_append_none (by rfl) _ _ _ (by rfl) 3 i3 Try.underlying35 hi3 (some ⟨W6.heap.size, 0, none⟩) 0 0 (Nat.le_refl _) ka kc (by rfl) (by rfl) ?_
        go_simp
        refine hK.out _ _ (fun _ => ⟨keep_cell ((bel_alloc (Below.refl W6.heap.size W6) _).drew) c76, keep_cell ((bel_alloc (Below.refl W6.heap.size W6) _).drew) n0, keep_cell ((bel_alloc (Below.refl W6.heap.size W6) _).drew) n1, keep_cell ((bel_alloc (Below.refl W6.heap.size W6) _).drew) n2⟩) ?_
        clear hK K
        have hS1 : (fun w' : World => w'.cell? ⟨w.heap.size + 1 + 1 + 1, 0, none⟩ = some (.slice ao ns.length c) ∧ w'.cell? ⟨wr.heap.size, 0, none⟩ = some (.int .i64 nd.k) ∧ w'.cell? ⟨wr.heap.size, 1, none⟩ = some (.string nd.s) ∧ w'.cell? ⟨wr.heap.size, 2, none⟩ = some (.slice ka 0 kc)) (W6.alloc (.cells #[] 3)).drew := ⟨keep_cell ((bel_alloc (Below.refl W6.heap.size W6) _).drew) c76, keep_cell ((bel_alloc (Below.refl W6.heap.size W6) _).drew) n0, keep_cell ((bel_alloc (Below.refl W6.heap.size W6) _).drew) n1, keep_cell ((bel_alloc (Below.refl W6.heap.size W6) _).drew) n2⟩
        refine anyE_take 10 (v := ?v9) rfl (by kernel_rfl) (by kernel_rfl) (by kernel_rfl) (by kernel_rfl) (fun _ _ _ h => h) (by rfl) ?hy9 hS1 ?rest9
        case hy9 =>
          intro wx hx
          obtain ⟨s1, s2, s3, s4⟩ := hx
          go_simp
          try rfl
        case rest9 =>
        intro K hK
        go_simp
        refine hK.out _ ?_
        clear hK K
        refine anyE_one 11 (by kernel_rfl) rfl (fun K hK => ?_)
        go_simp
        refine hK.out _ _ (fun _ => ⟨keep_cell ((bel_alloc (bel_alloc (Below.refl W6.heap.size W6) _) _).drew) c76, keep_cell ((bel_alloc (bel_alloc (Below.refl W6.heap.size W6) _) _).drew) n0, keep_cell ((bel_alloc (bel_alloc (Below.refl W6.heap.size W6) _) _).drew) n1, keep_cell ((bel_alloc (bel_alloc (Below.refl W6.heap.size W6) _) _).drew) n2⟩) ?_
        clear hK K
        refine anyE_one 12 (by kernel_rfl) rfl (fun K hK => ?_)
        refine step_append_lies _ (by rfl) _ _ _ (by rfl) (w.heap.size + 4) 87 i87 (.agg #[.int .i64 0, .string ⟨#[]⟩, .slice none 0 0]) 3 48 Try.underlying28 hi87 hz87 hs87 hb87 rfl (by omega) (.slice ao ns.length c) ns.length xs (by rfl) (own_drew ((HOX.out.alloc _).alloc _)) ⟨W6.heap.size + 1, 0, none⟩ 1 1 [.int .i64 nd.k, .string nd.s, .slice (some ⟨W6.heap.size, 0, none⟩) 0 0] (by rfl) (by rfl) (World.news_of_block (cs := #[.int .i64 nd.k, .string nd.s, .slice (some ⟨W6.heap.size, 0, none⟩) 0 0]) (t := 87) (fr := (0, 0)) (alloc2_block W6 _ _ 1)) (by intro u hu; simp at hu; rcases hu with rfl | rfl | rfl <;> rfl) (by omega) (by unfold maxLen; omega) (by omega) (by simp; omega) (W6.heap.size + 1 + 1) (by simp) ?_
        intro g4 cap4 w4 hown4 hgrow4 hat4 hlt4
        have k74 : w4.heap[w.heap.size + 1 + 1 + 1]? = some (.cells #[.slice ao ns.length c] 30 (0, 0)) := (hgrow4.block _ (by simp; omega) HF3.out).trans ((((bel_alloc (bel_alloc (Below.refl W6.heap.size W6) _) _).drew).block _ (by omega)).trans HS6.out.k7)
        have f74 : w4.frozen? ⟨w.heap.size + 1 + 1 + 1, 0, none⟩ = false := frozen_of_row k74
        have c74 : w4.cell? ⟨w.heap.size + 1 + 1 + 1, 0, none⟩ = some (.slice ao ns.length c) := far_cell hgrow4 HF3.out (keep_cell ((bel_alloc (bel_alloc (Below.refl W6.heap.size W6) _) _).drew) c76)
        have hS2 : (fun w' : World => w'.cell? ⟨w.heap.size + 1 + 1 + 1, 0, none⟩ = some (.slice ao ns.length c) ∧ w'.cell? ⟨wr.heap.size, 0, none⟩ = some (.int .i64 nd.k) ∧ w'.cell? ⟨wr.heap.size, 1, none⟩ = some (.string nd.s) ∧ w'.cell? ⟨wr.heap.size, 2, none⟩ = some (.slice ka 0 kc)) w4 := ⟨c74, far_cell hgrow4 HF9.out (keep_cell ((bel_alloc (bel_alloc (Below.refl W6.heap.size W6) _) _).drew) n0), far_cell hgrow4 HF9.out (keep_cell ((bel_alloc (bel_alloc (Below.refl W6.heap.size W6) _) _).drew) n1), far_cell hgrow4 HF9.out (keep_cell ((bel_alloc (bel_alloc (Below.refl W6.heap.size W6) _) _).drew) n2)⟩
        have HL := hide (LwSt.snoc (nd := nd) (HS6.out.keep ((bel_alloc (bel_alloc (Below.refl W6.heap.size W6) _) _).drew)) (Nat.le_refl _) (own_drew ((HOX.out.alloc _).alloc _)) (fun i hi => by obtain ⟨q1, q2, q3, q4, q5⟩ := HX.out i hi; exact ⟨q1, q2, q3, q4, q5.keep ((bel_alloc (bel_alloc (Below.refl W6.heap.size W6) _) _).drew)⟩) HK.out hgrow4 hown4)
        clear hown4 hgrow4 hat4 hlt4 k74
        go_simp
        refine hK.out _ _ (fun _ => hS2) ?_
        clear hK K
        refine anyE_take 13 (v := ?v10) rfl (by kernel_rfl) (by kernel_rfl) (by kernel_rfl) (by kernel_rfl) (fun _ _ _ h => h) (by rfl) ?hy10 hS2 ?rest10
        case hy10 =>
          intro wx hx
          obtain ⟨s1, s2, s3, s4⟩ := hx
          go_simp
          try rfl
        case rest10 =>
        intro K hK
        go_simp
        refine hK.out _ ?_
        clear hK K
        refine anyE_one 14 (by kernel_rfl) rfl (fun K hK => ?_)
        go_simp
        refine hK.out _ _ (fun h => absurd rfl h) ?_
        clear hK K
        refine anyE_done (by kernel_rfl) ?_ _
        clear hS0 hS1 hS2 f74 c74 HK HOX HX HF3 HF9 c76 n0 n1 n2
        go_wp2_with fail
        go_roundw
        case rel => exact ⟨j + 1, some ⟨g4, 0, none⟩, cap4, ns ++ [nd], by omega, by go_num, HND.out.symm, by have h := HL.out; exact h⟩
        case measure => simp [intOf]; omega
      · obtain ⟨kb, koff, rfl, hkc⟩ := HKV.out (by omega)
        have HKC := hide (fun j h => keep_cell hb6 (hkc j h))
        have hkp : 0 < nd.kids.length := by omega
        clear hkc
        have hS0 : (fun w' : World => w'.cell? ⟨w.heap.size + 1 + 1 + 1, 0, none⟩ = some (.slice ao ns.length c) ∧ w'.cell? ⟨wr.heap.size, 0, none⟩ = some (.int .i64 nd.k) ∧ w'.cell? ⟨wr.heap.size, 1, none⟩ = some (.string nd.s) ∧ w'.cell? ⟨wr.heap.size, 2, none⟩ = some (.slice (some ⟨kb, koff, none⟩) nd.kids.length kc)) W6.drew := ⟨c76, n0, n1, n2⟩
        refine anyE_region (L := 14) (S := (fun w' : World => w'.cell? ⟨w.heap.size + 1 + 1 + 1, 0, none⟩ = some (.slice ao ns.length c) ∧ w'.cell? ⟨wr.heap.size, 0, none⟩ = some (.int .i64 nd.k) ∧ w'.cell? ⟨wr.heap.size, 1, none⟩ = some (.string nd.s) ∧ w'.cell? ⟨wr.heap.size, 2, none⟩ = some (.slice (some ⟨kb, koff, none⟩) nd.kids.length kc))) (by kernel_rfl) ?_
        refine anyE_take 0 (v := ?v101) rfl (by kernel_rfl) (by kernel_rfl) (by kernel_rfl) (by kernel_rfl) (fun _ _ _ h => h) (by rfl) ?hy101 hS0 ?rest101
        case hy101 =>
          intro wx hx
          obtain ⟨s1, s2, s3, s4⟩ := hx
          go_simp
          try rfl
        case rest101 =>
        intro K hK
        go_simp
        refine hK.out _ ?_
        clear hK K
        refine anyE_take 1 (v := ?v102) rfl (by kernel_rfl) (by kernel_rfl) (by kernel_rfl) (by kernel_rfl) (fun _ _ _ h => h) (by rfl) ?hy102 hS0 ?rest102
        case hy102 =>
          intro wx hx
          obtain ⟨s1, s2, s3, s4⟩ := hx
          go_simp
          try rfl
        case rest102 =>
        intro K hK
        go_simp
        refine hK.out _ ?_
        clear hK K
        refine anyE_take 2 (v := ?v103) rfl (by kernel_rfl) (by kernel_rfl) (by kernel_rfl) (by kernel_rfl) (fun _ _ _ h => h) (by rfl) ?hy103 hS0 ?rest103
        case hy103 =>
          intro wx hx
          obtain ⟨s1, s2, s3, s4⟩ := hx
          go_simp
          try rfl
        case rest103 =>
        intro K hK
        go_simp
        refine hK.out _ ?_
        clear hK K
        refine anyE_take 3 (v := ?v104) rfl (by kernel_rfl) (by kernel_rfl) (by kernel_rfl) (by kernel_rfl) (fun _ _ _ h => h) (by rfl) ?hy104 hS0 ?rest104
        case hy104 =>
          intro wx hx
          obtain ⟨s1, s2, s3, s4⟩ := hx
          go_simp
          try rfl
        case rest104 =>
        intro K hK
        go_simp
        refine hK.out _ ?_
        clear hK K
        refine anyE_take 4 (v := ?v105) rfl (by kernel_rfl) (by kernel_rfl) (by kernel_rfl) (by kernel_rfl) (fun _ _ _ h => h) (by rfl) ?hy105 hS0 ?rest105
        case hy105 =>
          intro wx hx
          obtain ⟨s1, s2, s3, s4⟩ := hx
          go_simp
          try rfl
        case rest105 =>
        intro K hK
        go_simp
        refine hK.out _ ?_
        clear hK K
        refine anyE_take 5 (v := ?v106) rfl (by kernel_rfl) (by kernel_rfl) (by kernel_rfl) (by kernel_rfl) (fun _ _ _ h => h) (by rfl) ?hy106 hS0 ?rest106
        case hy106 =>
          intro wx hx
          obtain ⟨s1, s2, s3, s4⟩ := hx
          go_simp
          try rfl
        case rest106 =>
        intro K hK
        go_simp
        refine hK.out _ ?_
        clear hK K
        refine anyE_take 7 (v := ?v107) rfl (by kernel_rfl) (by kernel_rfl) (by kernel_rfl) (by kernel_rfl) (fun _ _ _ h => h) (by rfl) ?hy107 hS0 ?rest107
        case hy107 =>
          intro wx hx
          obtain ⟨s1, s2, s3, s4⟩ := hx
          go_simp
          try rfl
        case rest107 =>
        intro K hK
        go_simp
        refine hK.out _ ?_
        clear hK K
        refine anyE_take 8 (v := ?v108) rfl (by kernel_rfl) (by kernel_rfl) (by kernel_rfl) (by kernel_rfl) (fun _ _ _ h => h) (by rfl) ?hy108 hS0 ?rest108
        case hy108 =>
          intro wx hx
          obtain ⟨s1, s2, s3, s4⟩ := hx
          go_simp
          try rfl
        case rest108 =>
        intro K hK
        go_simp
        refine hK.out _ ?_
        clear hK K
        refine anyE_one 6 (by kernel_rfl) rfl (fun K hK => ?_)
        go_simp
        refine hK.out _ _ (fun _ => ⟨keep_cell ((bel_alloc (Below.refl W6.heap.size W6) _).drew) c76, keep_cell ((bel_alloc (Below.refl W6.heap.size W6) _).drew) n0, keep_cell ((bel_alloc (Below.refl W6.heap.size W6) _).drew) n1, keep_cell ((bel_alloc (Below.refl W6.heap.size W6) _).drew) n2⟩) ?_
        clear hK K
        refine anyE_one 9 (by kernel_rfl) rfl (fun K hK => ?_)
        refine step_append_lies _ (by rfl) _ _ _ (by rfl) (w.heap.size + 4) 3 i3 (.int .i64 0) 1 8 Try.underlying35 hi3 hz3 hs3 hb3 rfl (by omega) (.slice (some ⟨W6.heap.size, 0, none⟩) 0 0) 0 [] (by rfl) (own_drew (World.ownsRow_lit (base := w.heap.size + 4) (e := 3) (size := 1) W6 #[] 0 (by simpa using h46) (by unfold maxLen; omega) rfl)) ⟨kb, koff, none⟩ nd.kids.length kc (nd.kids.map (Value.int .i64)) (by rfl) (by simp) ?cells (by intro u hu; simp at hu; obtain ⟨x, _, rfl⟩ := hu; rfl) hkp (by unfold maxLen; omega) (by omega) (by simp; omega) (W6.heap.size + 1) (by simp) ?_
        case cells =>
          intro q u hq
          rw [List.getElem?_map] at hq
          obtain ⟨x, hx1, hx2⟩ := Option.map_eq_some_iff.1 hq
          obtain ⟨hql, hx3⟩ := List.getElem?_eq_some_iff.1 hx1
          rw [Addr.add_lit, ← hx2, ← hx3]
          exact keep_cell ((bel_alloc (Below.refl W6.heap.size W6) _).drew) (HKC.out q hql)
        intro g3 cap3 w3 hown3 hgrow3 hat3 hlt3
        have HB3 := hide (((bel_alloc (Below.refl W6.heap.size W6) _).drew).trans (below_of (base := W6.heap.size) hgrow3 (Nat.le_refl _) (by simp)))
        have hs3w := HB3.out.size
        have HK := hide (show KidRow (w.heap.size + 4) w3 (.slice (some ⟨g3, 0, none⟩) nd.kids.length cap3) nd.kids by have h := hown3; rw [Nat.zero_add] at h; exact h)
        clear hown3 hgrow3 hat3 hlt3
        go_simp
        refine hK.out _ _ (fun _ => ⟨keep_cell HB3.out c76, keep_cell HB3.out n0, keep_cell HB3.out n1, keep_cell HB3.out n2⟩) ?_
        clear hK K
        have hS1 : (fun w' : World => w'.cell? ⟨w.heap.size + 1 + 1 + 1, 0, none⟩ = some (.slice ao ns.length c) ∧ w'.cell? ⟨wr.heap.size, 0, none⟩ = some (.int .i64 nd.k) ∧ w'.cell? ⟨wr.heap.size, 1, none⟩ = some (.string nd.s) ∧ w'.cell? ⟨wr.heap.size, 2, none⟩ = some (.slice (some ⟨kb, koff, none⟩) nd.kids.length kc)) w3 := ⟨keep_cell HB3.out c76, keep_cell HB3.out n0, keep_cell HB3.out n1, keep_cell HB3.out n2⟩
        refine anyE_take 10 (v := ?v109) rfl (by kernel_rfl) (by kernel_rfl) (by kernel_rfl) (by kernel_rfl) (fun _ _ _ h => h) (by rfl) ?hy109 hS1 ?rest109
        case hy109 =>
          intro wx hx
          obtain ⟨s1, s2, s3, s4⟩ := hx
          go_simp
          try rfl
        case rest109 =>
        intro K hK
        go_simp
        refine hK.out _ ?_
        clear hK K
        refine anyE_one 11 (by kernel_rfl) rfl (fun K hK => ?_)
        go_simp
        refine hK.out _ _ (fun _ => ⟨keep_cell (bel_alloc HB3.out _) c76, keep_cell (bel_alloc HB3.out _) n0, keep_cell (bel_alloc HB3.out _) n1, keep_cell (bel_alloc HB3.out _) n2⟩) ?_
        clear hK K
        refine anyE_one 12 (by kernel_rfl) rfl (fun K hK => ?_)
        refine step_append_lies _ (by rfl) _ _ _ (by rfl) (w.heap.size + 4) 87 i87 (.agg #[.int .i64 0, .string ⟨#[]⟩, .slice none 0 0]) 3 48 Try.underlying28 hi87 hz87 hs87 hb87 rfl (by omega) (.slice ao ns.length c) ns.length xs (by rfl) ((row_keep HB3.out HOX.out).alloc _) ⟨w3.heap.size, 0, none⟩ 1 1 [.int .i64 nd.k, .string nd.s, .slice (some ⟨g3, 0, none⟩) nd.kids.length cap3] (by rfl) (by rfl) (World.news_of_block (cs := #[.int .i64 nd.k, .string nd.s, .slice (some ⟨g3, 0, none⟩) nd.kids.length cap3]) (t := 87) (fr := (0, 0)) (heap_alloc_new w3 _)) (by intro u hu; simp at hu; rcases hu with rfl | rfl | rfl <;> rfl) (by omega) (by unfold maxLen; omega) (by omega) (by simp; omega) (w3.heap.size + 1) (by simp) ?_
        intro g4 cap4 w4 hown4 hgrow4 hat4 hlt4
        have k74 : w4.heap[w.heap.size + 1 + 1 + 1]? = some (.cells #[.slice ao ns.length c] 30 (0, 0)) := (hgrow4.block _ (by simp; omega) HF3.out).trans (((bel_alloc HB3.out _).block _ (by omega)).trans HS6.out.k7)
        have f74 : w4.frozen? ⟨w.heap.size + 1 + 1 + 1, 0, none⟩ = false := frozen_of_row k74
        have c74 : w4.cell? ⟨w.heap.size + 1 + 1 + 1, 0, none⟩ = some (.slice ao ns.length c) := far_cell hgrow4 HF3.out (keep_cell (bel_alloc HB3.out _) c76)
        have hS2 : (fun w' : World => w'.cell? ⟨w.heap.size + 1 + 1 + 1, 0, none⟩ = some (.slice ao ns.length c) ∧ w'.cell? ⟨wr.heap.size, 0, none⟩ = some (.int .i64 nd.k) ∧ w'.cell? ⟨wr.heap.size, 1, none⟩ = some (.string nd.s) ∧ w'.cell? ⟨wr.heap.size, 2, none⟩ = some (.slice (some ⟨kb, koff, none⟩) nd.kids.length kc)) w4 := ⟨c74, far_cell hgrow4 HF9.out (keep_cell (bel_alloc HB3.out _) n0), far_cell hgrow4 HF9.out (keep_cell (bel_alloc HB3.out _) n1), far_cell hgrow4 HF9.out (keep_cell (bel_alloc HB3.out _) n2)⟩
        have HL := hide (LwSt.snoc (nd := nd) (HS6.out.keep (bel_alloc HB3.out _)) (Nat.le_refl _) ((row_keep HB3.out HOX.out).alloc _) (fun i hi => by obtain ⟨q1, q2, q3, q4, q5⟩ := HX.out i hi; exact ⟨q1, q2, q3, q4, q5.keep (bel_alloc HB3.out _)⟩) (HK.out.keep (bel_alloc (Below.refl _ _) _)) hgrow4 hown4)
        clear hown4 hgrow4 hat4 hlt4 k74
        go_simp
        refine hK.out _ _ (fun _ => hS2) ?_
        clear hK K
        refine anyE_take 13 (v := ?v110) rfl (by kernel_rfl) (by kernel_rfl) (by kernel_rfl) (by kernel_rfl) (fun _ _ _ h => h) (by rfl) ?hy110 hS2 ?rest110
        case hy110 =>
          intro wx hx
          obtain ⟨s1, s2, s3, s4⟩ := hx
          go_simp
          try rfl
        case rest110 =>
        intro K hK
        go_simp
        refine hK.out _ ?_
        clear hK K
        refine anyE_one 14 (by kernel_rfl) rfl (fun K hK => ?_)
        go_simp
        refine hK.out _ _ (fun h => absurd rfl h) ?_
        clear hK K
        refine anyE_done (by kernel_rfl) ?_ _
        clear hS0 hS1 hS2 f74 c74 HK HOX HX HF3 HF9 c76 n0 n1 n2
        go_wp2_with fail
        go_roundw
        case rel => exact ⟨j + 1, some ⟨g4, 0, none⟩, cap4, ns ++ [nd], by omega, by go_num, HND.out.symm, by have h := HL.out; exact h⟩
        case measure => simp [intOf]; omega
    · have d1 : decide ((j : Int) < (ns1.length : Int)) = false := by simp; omega
      have hlt' : ¬ (j : Int) < (ns1.length : Int) := by omega
      have hne : ns = ns1 := by rw [HNS.out]; exact List.take_of_length_le (by omega)
      subst hne
      have hwf : IntKind.i64.wrap ((ns.length : Int) - 1) = (ns.length : Int) - 1 := by rw [IntKind.wrap_i64]; omega
      have HS1 := HS
      clear HS HNS hj hlt d1
      go_wp2_with fail
      clear hlt' ca c7
      obtain ⟨W1, hW1⟩ : ∃ W1, W1 = wr := ⟨_, rfl⟩
      rw [← hW1] at HS1
      go_loopw [11, 12, 13] (fun i _ _ wq => ∃ (p : Nat) (ao : Option Addr) (c : Nat) (os : List Nd), p ≤ ns2.length ∧ i = .int .i64 p ∧ Hid (os = ns ++ (ns2.take p).map (shiftN ns.length)) ∧ Hid (LwSt w.heap.size (.slice (some ⟨b1, off1, none⟩) ns.length cap1) (.slice (some ⟨b2, off2, none⟩) ns2.length cap2) ao c os w wq)) (fun i _ _ _ => ns2.length - (intOf i).toNat)
      case atStart => exact ⟨0, _, _, ns, by omega, rfl, by show _ = _; simp, by rw [← hW1]; exact HS1.out⟩
      case round =>
        obtain ⟨p, ap, cp, os, hp, rfl, HNS, HS⟩ := hrel
        clear HS1 hW1
        have cb : wr.cell? ⟨w.heap.size + 1, 0, none⟩ = some (.slice (some ⟨b2, off2, none⟩) ns2.length cap2) := (cell_of_row _ _ _ _ _ _ HS.out.kb).trans rfl
        have hbl := block_lt HS.out.k7
        by_cases hlt : p < ns2.length
        · have d1 : decide ((p : Int) < (ns2.length : Int)) = true := by simp; omega
          have hlt' : (p : Int) < (ns2.length : Int) := by omega
          obtain ⟨q0, q1, kv, q2, hkv⟩ := HN2.out p hlt
          have q0 := keep_cell HS.out.bel q0
          have q1 := keep_cell HS.out.bel q1
          have q2 := keep_cell HS.out.bel q2
          have hkv := hkv.keep HS.out.bel
          have hkl : ns2[p].kids.length ≤ 2 := HK2.out _ (List.getElem_mem hlt)
          have HRG := hide (HR2.out _ (List.getElem_mem hlt))
          have HND : Hid (ns ++ (ns2.take (p + 1)).map (shiftN ns.length) = os ++ [shiftN ns.length ns2[p]]) := by
            show _ = _
            rw [HNS.out, List.append_assoc, ← List.take_append_getElem hlt, List.map_append]; rfl
          have HLN : Hid (os.length = ns.length + p) := by show _ = _; rw [HNS.out, List.length_append, List.length_map, List.length_take]; omega
          generalize ns2[p] = nd at *
          obtain ⟨ka, kc, rfl, hkc1, hkc2, hkv⟩ := hkv
          have HKV := hide hkv
          have hnl : os.length ≤ 128 := by have := HLN.out; omega
          have lq0 := lt_cell q0
          have lcb := lt_cell cb
          clear hkv
          go_wp2_with fail
          go_region_held3 (fun w' => w'.cell? ⟨w.heap.size + 1, 0, none⟩ = some (.slice (some ⟨b2, off2, none⟩) ns2.length cap2) ∧ w'.cell? ⟨b2, off2 + p * 3, none⟩ = some (.int .i64 nd.k) ∧ w'.cell? ⟨b2, off2 + p * 3 + 1, none⟩ = some (.string nd.s))
            (first | go_keep | fail)
            (fail)
          obtain ⟨W2, hW2⟩ : ∃ W2, W2 = (wr.alloc (.cells #[.int .i64 nd.k, .string nd.s, .slice none 0 0] 87)).drew := ⟨_, rfl⟩
          have HB2 := hide (show Below wr.heap.size wr W2 by rw [hW2]; exact (bel_alloc (Below.refl _ _) _).drew)
          have HD2 := hide (show AnyNd wr.heap.size wr.heap.size W2 ⟨nd.k, nd.s, []⟩ none 0 from ⟨by rw [hW2]; exact heap_alloc_new wr _, World.ownsRow_nil _ _ _ _⟩)
          obtain ⟨wv, hwv⟩ : ∃ wv, wv = wr := ⟨_, rfl⟩
          obtain ⟨nb, hnb⟩ : ∃ nb, nb = wr.heap.size := ⟨_, rfl⟩
          rw [← hW2, ← hnb]
          rw [← hwv] at HB2 HD2 HS cb q0 q1 q2 HKV hbl lq0 lcb hnb
          have hnbge : wv.heap.size ≤ nb := by omega
          have HNB := hide hnb
          clear hW2 hwv hnb
          go_wp2_with fail
          go_loopw [13] (fun jj wx => ∃ (q : Nat) (ja : Option Addr) (jc : Nat) (ks : List Int), q ≤ nd.kids.length ∧ jj = .int .i64 q ∧ Hid (ks = (nd.kids.take q).map (fun x => x + (ns.length : Int))) ∧ Hid (AnyNd wv.heap.size nb wx ⟨nd.k, nd.s, ks⟩ ja jc) ∧ Hid (Below wv.heap.size wv wx)) (fun jj _ => nd.kids.length - (intOf jj).toNat)
          case atStart => exact ⟨0, none, 0, [], by omega, rfl, by show _ = _; simp, by rw [HNB.out]; exact HD2.out, HB2.out⟩
          case round =>
            obtain ⟨q, ja, jc, ks, hq, rfl, HKS, HD, HB⟩ := hrel
            clear HB2 HD2
            have e1 := keep_cell HB.out cb
            have e2 := keep_cell HB.out q2
            by_cases hql : q < nd.kids.length
            · have dq : decide ((q : Int) < (nd.kids.length : Int)) = true := by simp; omega
              have hql' : (q : Int) < (nd.kids.length : Int) := by omega
              obtain ⟨kb, koff, rfl, hkc⟩ := HKV.out (by omega)
              have kc0 := keep_cell HB.out (hkc q hql)
              have lkb := lt_cell (hkc q hql)
              have HKN : Hid ((nd.kids.take (q + 1)).map (fun x => x + (ns.length : Int)) = ks ++ [nd.kids[q] + (ns.length : Int)]) := by
                show _ = _
                rw [HKS.out, ← List.take_append_getElem hql, List.map_append]; rfl
              have hkr := HRG.out _ (List.getElem_mem hql)
              generalize nd.kids[q] = kq at *
              have hkl' : ks.length = q := by rw [HKS.out, List.length_map, List.length_take]; omega
              have hw1 : IntKind.i64.wrap (kq + ((ns.length : Int) - 1)) = kq + ((ns.length : Int) - 1) := by rw [IntKind.wrap_i64]; omega
              have hw2 : IntKind.i64.wrap (kq + ((ns.length : Int) - 1) + 1) = kq + (ns.length : Int) := by rw [IntKind.wrap_i64]; omega
              obtain ⟨n0, n1, n2, f0, f1, f2⟩ := HD.out.cells
              have hsx := lt_cell n0
              have HKE := hide hkl'
              clear hkc hkl'
              go_wp2_with fail
              have n2' : wr.cell? ⟨nb, 2, none⟩ = some (.slice ja ks.length jc) := n2
              have HF := hide (show ∀ x, x < wv.heap.size → some x ≠ (Value.slice ja ks.length jc).ownBlock from fun x hx e => by have := (World.ownsRow.lt HD.out.2 x e.symm).1; omega)
              have hbs := HB.out.size
              have HLEN : Hid ((ks ++ [kq + (ns.length : Int)]).length = ks.length + 1) := by show _ = _; simp
              have hks2 : ks.length ≤ 2 := by have := HKE.out; omega
              have hS0 : (fun w' : World => w'.cell? ⟨nb, 2, none⟩ = some (.slice ja ks.length jc) ∧ w'.cell? ⟨w.heap.size + 1, 0, none⟩ = some (.slice (some ⟨b2, off2, none⟩) ns2.length cap2) ∧ w'.cell? ⟨b2, off2 + p * 3 + 2, none⟩ = some (.slice (some ⟨kb, koff, none⟩) nd.kids.length kc) ∧ w'.cell? ⟨kb, koff + q, none⟩ = some (.int .i64 kq)) wr.drew := ⟨n2', e1, e2, kc0⟩
              refine anyE_region (L := 17) (S := (fun w' : World => w'.cell? ⟨nb, 2, none⟩ = some (.slice ja ks.length jc) ∧ w'.cell? ⟨w.heap.size + 1, 0, none⟩ = some (.slice (some ⟨b2, off2, none⟩) ns2.length cap2) ∧ w'.cell? ⟨b2, off2 + p * 3 + 2, none⟩ = some (.slice (some ⟨kb, koff, none⟩) nd.kids.length kc) ∧ w'.cell? ⟨kb, koff + q, none⟩ = some (.int .i64 kq))) (by kernel_rfl) ?_
              refine anyE_take 0 (v := ?v301) rfl (by kernel_rfl) (by kernel_rfl) (by kernel_rfl) (by kernel_rfl) (fun _ _ _ h => h) (by rfl) ?hy301 hS0 ?rest301
              case hy301 =>
                intro wx hx
                obtain ⟨s1, s2, s3, s4⟩ := hx
                go_simp
                try rfl
              case rest301 =>
              intro K hK
              go_simp
              refine hK.out _ ?_
              clear hK K
              refine anyE_take 1 (v := ?v302) rfl (by kernel_rfl) (by kernel_rfl) (by kernel_rfl) (by kernel_rfl) (fun _ _ _ h => h) (by rfl) ?hy302 hS0 ?rest302
              case hy302 =>
                intro wx hx
                obtain ⟨s1, s2, s3, s4⟩ := hx
                go_simp
                try rfl
              case rest302 =>
              intro K hK
              go_simp
              refine hK.out _ ?_
              clear hK K
              refine anyE_take 2 (v := ?v303) rfl (by kernel_rfl) (by kernel_rfl) (by kernel_rfl) (by kernel_rfl) (fun _ _ _ h => h) (by rfl) ?hy303 hS0 ?rest303
              case hy303 =>
                intro wx hx
                obtain ⟨s1, s2, s3, s4⟩ := hx
                go_simp
                try rfl
              case rest303 =>
              intro K hK
              go_simp
              refine hK.out _ ?_
              clear hK K
              refine anyE_take 3 (v := ?v304) rfl (by kernel_rfl) (by kernel_rfl) (by kernel_rfl) (by kernel_rfl) (fun _ _ _ h => h) (by rfl) ?hy304 hS0 ?rest304
              case hy304 =>
                intro wx hx
                obtain ⟨s1, s2, s3, s4⟩ := hx
                go_simp
                try rfl
              case rest304 =>
              intro K hK
              go_simp
              refine hK.out _ ?_
              clear hK K
              refine anyE_take 4 (v := ?v305) rfl (by kernel_rfl) (by kernel_rfl) (by kernel_rfl) (by kernel_rfl) (fun _ _ _ h => h) (by rfl) ?hy305 hS0 ?rest305
              case hy305 =>
                intro wx hx
                obtain ⟨s1, s2, s3, s4⟩ := hx
                go_simp
                try rfl
              case rest305 =>
              intro K hK
              go_simp
              refine hK.out _ ?_
              clear hK K
              refine anyE_take 5 (v := ?v306) rfl (by kernel_rfl) (by kernel_rfl) (by kernel_rfl) (by kernel_rfl) (fun _ _ _ h => h) (by rfl) ?hy306 hS0 ?rest306
              case hy306 =>
                intro wx hx
                obtain ⟨s1, s2, s3, s4⟩ := hx
                go_simp
                try rfl
              case rest306 =>
              intro K hK
              go_simp
              refine hK.out _ ?_
              clear hK K
              refine anyE_take 6 (v := ?v307) rfl (by kernel_rfl) (by kernel_rfl) (by kernel_rfl) (by kernel_rfl) (fun _ _ _ h => h) (by rfl) ?hy307 hS0 ?rest307
              case hy307 =>
                intro wx hx
                obtain ⟨s1, s2, s3, s4⟩ := hx
                go_simp
                try rfl
              case rest307 =>
              intro K hK
              go_simp
              refine hK.out _ ?_
              clear hK K
              refine anyE_take 7 (v := ?v308) rfl (by kernel_rfl) (by kernel_rfl) (by kernel_rfl) (by kernel_rfl) (fun _ _ _ h => h) (by rfl) ?hy308 hS0 ?rest308
              case hy308 =>
                intro wx hx
                obtain ⟨s1, s2, s3, s4⟩ := hx
                go_simp
                try rfl
              case rest308 =>
              intro K hK
              go_simp
              refine hK.out _ ?_
              clear hK K
              refine anyE_take 8 (v := ?v309) rfl (by kernel_rfl) (by kernel_rfl) (by kernel_rfl) (by kernel_rfl) (fun _ _ _ h => h) (by rfl) ?hy309 hS0 ?rest309
              case hy309 =>
                intro wx hx
                obtain ⟨s1, s2, s3, s4⟩ := hx
                go_simp
                try rfl
              case rest309 =>
              intro K hK
              go_simp
              refine hK.out _ ?_
              clear hK K
              refine anyE_take 9 (v := ?v310) rfl (by kernel_rfl) (by kernel_rfl) (by kernel_rfl) (by kernel_rfl) (fun _ _ _ h => h) (by rfl) ?hy310 hS0 ?rest310
              case hy310 =>
                intro wx hx
                obtain ⟨s1, s2, s3, s4⟩ := hx
                go_simp
                try rfl
              case rest310 =>
              intro K hK
              go_simp
              refine hK.out _ ?_
              clear hK K
              refine anyE_take 10 (v := ?v311) rfl (by kernel_rfl) (by kernel_rfl) (by kernel_rfl) (by kernel_rfl) (fun _ _ _ h => h) (by rfl) ?hy311 hS0 ?rest311
              case hy311 =>
                intro wx hx
                obtain ⟨s1, s2, s3, s4⟩ := hx
                go_simp
                try rfl
              case rest311 =>
              intro K hK
              go_simp
              refine hK.out _ ?_
              clear hK K
              refine anyE_take 11 (v := ?v312) rfl (by kernel_rfl) (by kernel_rfl) (by kernel_rfl) (by kernel_rfl) (fun _ _ _ h => h) (by rfl) ?hy312 hS0 ?rest312
              case hy312 =>
                intro wx hx
                obtain ⟨s1, s2, s3, s4⟩ := hx
                go_simp
                try rfl
              case rest312 =>
              intro K hK
              go_simp
              refine hK.out _ ?_
              clear hK K
              refine anyE_take 12 (v := ?v313) rfl (by kernel_rfl) (by kernel_rfl) (by kernel_rfl) (by kernel_rfl) (fun _ _ _ h => h) (by rfl) ?hy313 hS0 ?rest313
              case hy313 =>
                intro wx hx
                obtain ⟨s1, s2, s3, s4⟩ := hx
                go_simp
                try rfl
              case rest313 =>
              intro K hK
              go_simp
              refine hK.out _ ?_
              clear hK K
              refine anyE_take 13 (v := ?v314) rfl (by kernel_rfl) (by kernel_rfl) (by kernel_rfl) (by kernel_rfl) (fun _ _ _ h => h) (by rfl) ?hy314 hS0 ?rest314
              case hy314 =>
                intro wx hx
                obtain ⟨s1, s2, s3, s4⟩ := hx
                go_simp
                try rfl
              case rest314 =>
              intro K hK
              go_simp
              refine hK.out _ ?_
              clear hK K
              refine anyE_one 14 (by kernel_rfl) rfl (fun K hK => ?_)
              go_simp
              refine hK.out _ _ (fun _ => ⟨keep_cell ((bel_alloc (Below.refl wr.heap.size wr) _).drew) n2', keep_cell ((bel_alloc (Below.refl wr.heap.size wr) _).drew) e1, keep_cell ((bel_alloc (Below.refl wr.heap.size wr) _).drew) e2, keep_cell ((bel_alloc (Below.refl wr.heap.size wr) _).drew) kc0⟩) ?_
              clear hK K
              refine anyE_one 15 (by kernel_rfl) rfl (fun K hK => ?_)
              refine step_append_lies _ (by rfl) _ _ _ (by rfl) wv.heap.size 3 i3 (.int .i64 0) 1 8 Try.underlying35 hi3 hz3 hs3 hb3 rfl (by omega) (.slice ja ks.length jc) ks.length (ks.map (Value.int .i64)) (by rfl) (own_drew ((show wr.ownsRow wv.heap.size 3 1 (.slice ja ks.length jc) ks.length (ks.map (Value.int .i64)) from HD.out.2).alloc _)) ⟨wr.heap.size, 0, none⟩ 1 1 [.int .i64 (kq + (ns.length : Int))] (by rfl) (by rfl) (World.news_of_block (cs := #[.int .i64 (kq + (ns.length : Int))]) (t := 3) (fr := (0, 0)) (heap_alloc_new wr _)) (by intro u hu; simp at hu; subst hu; rfl) (by omega) (by unfold maxLen; omega) (by omega) (by simp; omega) (wr.heap.size + 1) (by simp) ?_
              intro g4 cap4 w4 hown4 hgrow4 hat4 hlt4
              have hnb4 := (HD.out.keep ((bel_alloc (Below.refl wr.heap.size wr) _).drew)).grownK (by simp; omega) hgrow4
              have m2 : w4.cell? ⟨nb, 2, none⟩ = some (.slice ja ks.length jc) := by rw [cell_of_row _ _ _ _ _ _ hnb4]; rfl
              have m2f : w4.frozen? ⟨nb, 2, none⟩ = false := frozen_of_row hnb4
              have hS2 : (fun w' : World => w'.cell? ⟨nb, 2, none⟩ = some (.slice ja ks.length jc) ∧ w'.cell? ⟨w.heap.size + 1, 0, none⟩ = some (.slice (some ⟨b2, off2, none⟩) ns2.length cap2) ∧ w'.cell? ⟨b2, off2 + p * 3 + 2, none⟩ = some (.slice (some ⟨kb, koff, none⟩) nd.kids.length kc) ∧ w'.cell? ⟨kb, koff + q, none⟩ = some (.int .i64 kq)) w4 := ⟨m2, far_cell hgrow4 (HF.out _ lcb) (keep_cell ((bel_alloc (Below.refl wr.heap.size wr) _).drew) e1), far_cell hgrow4 (HF.out _ lq0) (keep_cell ((bel_alloc (Below.refl wr.heap.size wr) _).drew) e2), far_cell hgrow4 (HF.out _ lkb) (keep_cell ((bel_alloc (Below.refl wr.heap.size wr) _).drew) kc0)⟩
              have HB4 := hide ((HB.out.trans ((((bel_alloc (Below.refl wr.heap.size wr) _).drew)).mono hbs)).grown hgrow4 (by simp; omega) (fun k hk => (World.ownsRow.lt HD.out.2 k hk).1))
              have HK4 := hide (show KidRow wv.heap.size w4 (.slice (some ⟨g4, 0, none⟩) (ks ++ [kq + (ns.length : Int)]).length cap4) (ks ++ [kq + (ns.length : Int)]) by unfold KidRow; rw [List.length_append, List.map_append]; exact hown4)
              have hS4 := AnyNd.setKids (nd := ⟨nd.k, nd.s, ks⟩) hnb4 HK4.out
              rw [HLEN.out] at hS4
              have HD4 := hide hS4
              clear hown4 hgrow4 hat4 hlt4 hnb4 hS4
              go_simp
              refine hK.out _ _ (fun _ => hS2) ?_
              clear hK K
              refine anyE_take 16 (v := ?v315) rfl (by kernel_rfl) (by kernel_rfl) (by kernel_rfl) (by kernel_rfl) (fun _ _ _ h => h) (by rfl) ?hy315 hS2 ?rest315
              case hy315 =>
                intro wx hx
                obtain ⟨s1, s2, s3, s4⟩ := hx
                go_simp
                try rfl
              case rest315 =>
              intro K hK
              go_simp
              refine hK.out _ ?_
              clear hK K
              refine anyE_one 17 (by kernel_rfl) rfl (fun K hK => ?_)
              go_simp
              refine hK.out _ _ (fun h => absurd rfl h) ?_
              clear hK K
              refine anyE_done (by kernel_rfl) ?_ _
              clear hS0 hS2 m2 m2f
              go_wp2_with fail
              go_roundw
              case rel => exact ⟨q + 1, some ⟨g4, 0, none⟩, cap4, ks ++ [kq + (ns.length : Int)], by omega, by go_num, HKN.out.symm, HD4.out, HB4.out.setCell (p := ⟨nb, 2, none⟩) (by show wv.heap.size ≤ nb; omega) _⟩
              case measure => simp [intOf]; omega
            · have dq : decide ((q : Int) < (nd.kids.length : Int)) = false := by simp; omega
              have hql' : ¬ (q : Int) < (nd.kids.length : Int) := by omega
              have hke : ks = (shiftN ns.length nd).kids := by rw [HKS.out, List.take_of_length_le (by omega)]; rfl
              obtain ⟨n0, n1, n2, f0, f1, f2⟩ := HD.out.cells
              have n0 : wr.cell? ⟨nb, 0, none⟩ = some (.int .i64 nd.k) := n0
              have n1 : wr.cell? ⟨nb, 1, none⟩ = some (.string nd.s) := n1
              have n2 : wr.cell? ⟨nb, 2, none⟩ = some (.slice ja ks.length jc) := n2
              have HSX := hide (HS.out.keep HB.out)
              have h4v := HS.out.h4
              have h4x := HSX.out.h4
              have c7 : wr.cell? ⟨w.heap.size + 1 + 1 + 1, 0, none⟩ = some (.slice ap os.length cp) := (cell_of_row _ _ _ _ _ _ HSX.out.k7).trans rfl
              obtain ⟨xs, hox, hxs⟩ := HSX.out.nd
              have HX := hide hxs
              have HOX := hide hox
              have HK := hide (show KidRow (w.heap.size + 4) (wr.alloc (.cells #[.int .i64 nd.k, .string nd.s, .slice ja ks.length jc] 87)) (.slice ja ks.length jc) (shiftN ns.length nd).kids by
                rw [← hke]
                exact ((show KidRow wv.heap.size wr (.slice ja ks.length jc) ks from HD.out.2).base h4v).keep (bel_alloc (Below.refl _ _) _))
              have HF3 := hide (HSX.out.off (b := w.heap.size + 1 + 1 + 1) (.inl (by omega)))
              clear hox hxs hke f0 f1 f2 HKS
              go_wp2_with (first
                | (at_builtin
                   refine wpList_append_lies _ rfl _ _ 28 rfl (w.heap.size + 4) 87 i87 (.agg #[.int .i64 0, .string ⟨#[]⟩, .slice none 0 0]) 3 48 Try.underlying28 hi87 hz87 hs87 hb87 rfl (by omega) (.slice ap os.length cp) os.length xs rfl (HOX.out.alloc _) ⟨wr.heap.size, 0, none⟩ 1 1 [.int .i64 nd.k, .string nd.s, .slice ja ks.length jc] rfl rfl (World.news_of_block (cs := #[.int .i64 nd.k, .string nd.s, .slice ja ks.length jc]) (t := 87) (fr := (0, 0)) (heap_alloc_new wr _)) (by intro u hu; simp at hu; rcases hu with rfl | rfl | rfl <;> rfl) (by omega) (by unfold maxLen; omega) (by omega) (by simp; omega) (wr.heap.size + 1) (by simp) ?_
                   intro g4 cap4 w4 hown4 hgrow4 hat4 hlt4
                   have k74 : w4.heap[w.heap.size + 1 + 1 + 1]? = some (.cells #[.slice ap os.length cp] 30 (0, 0)) := (hgrow4.block _ (by simp; omega) HF3.out).trans (((bel_alloc (Below.refl wr.heap.size wr) _).block _ (by omega)).trans HSX.out.k7)
                   have f74 : w4.frozen? ⟨w.heap.size + 1 + 1 + 1, 0, none⟩ = false := frozen_of_row k74
                   have c74 : w4.cell? ⟨w.heap.size + 1 + 1 + 1, 0, none⟩ = some (.slice ap os.length cp) := (cell_of_row _ _ _ _ _ _ k74).trans rfl
                   have HL := hide (LwSt.snoc (nd := shiftN ns.length nd) (HSX.out.keep (bel_alloc (Below.refl wr.heap.size wr) _)) (Nat.le_refl _) (HOX.out.alloc _) (fun i hi => by { obtain ⟨q1, q2, q3, q4, q5⟩ := HX.out i hi; exact ⟨q1, q2, q3, q4, q5.keep (bel_alloc (Below.refl wr.heap.size wr) _)⟩ }) HK.out hgrow4 hown4)
                   clear hown4 hgrow4 hat4 hlt4 k74)
                | fail)
              go_roundw
              case rel => exact ⟨p + 1, some ⟨g4, 0, none⟩, cap4, os ++ [shiftN ns.length nd], by omega, by go_num, HND.out.symm, by have h := HL.out; exact h⟩
              case measure => simp [intOf]; omega
        · have d1 : decide ((p : Int) < (ns2.length : Int)) = false := by simp; omega
          have hlt' : ¬ (p : Int) < (ns2.length : Int) := by omega
          have hoe : os = ns ++ ns2.map (shiftN ns.length) := by rw [HNS.out, List.take_of_length_le (by omega)]
          have hol : os.length = ns.length + ns2.length := by rw [hoe, List.length_append, List.length_map]
          have HOE := hide hoe
          have HOL := hide hol
          have hol2 : os.length ≤ 128 := by omega
          have hol0 : 0 < os.length := by omega
          have hwo : IntKind.i64.wrap ((os.length : Int) - 1) = (os.length : Int) - 1 := by rw [IntKind.wrap_i64]; omega
          have c7 : wr.cell? ⟨w.heap.size + 1 + 1 + 1, 0, none⟩ = some (.slice ap os.length cp) := (cell_of_row _ _ _ _ _ _ HS.out.k7).trans rfl
          obtain ⟨xs, hox, hxs⟩ := HS.out.nd
          have HX := hide hxs
          have HOX := hide hox
          have h4x := HS.out.h4
          have HK := hide (show KidRow (w.heap.size + 4) ((wr.alloc (.cells #[.int .i64 ((ns.length : Int) - 1), .int .i64 ((os.length : Int) - 1)] 3)).alloc (.cells #[.int .i64 3, .string ⟨#[]⟩, .slice (some ⟨wr.heap.size, 0, none⟩) 2 2] 87)) (.slice (some ⟨wr.heap.size, 0, none⟩) 2 2) [((ns.length - 1 : Nat) : Int), ((ns.length + ns2.length - 1 : Nat) : Int)] by
            rw [show ((ns.length - 1 : Nat) : Int) = (ns.length : Int) - 1 from by omega, show ((ns.length + ns2.length - 1 : Nat) : Int) = (os.length : Int) - 1 from by omega]
            exact World.ownsRow.alloc (World.ownsRow_lit (base := w.heap.size + 4) (e := 3) (size := 1) wr #[.int .i64 ((ns.length : Int) - 1), .int .i64 ((os.length : Int) - 1)] 2 (by omega) (by unfold maxLen; omega) rfl) _)
          have HF3 := hide (HS.out.off (b := w.heap.size + 1 + 1 + 1) (.inl (by omega)))
          clear hox hxs hoe hol HNS hlt
          go_wp2_with (first
            | (at_builtin
               refine wpList_append_lies _ rfl _ _ 28 rfl (w.heap.size + 4) 87 i87 (.agg #[.int .i64 0, .string ⟨#[]⟩, .slice none 0 0]) 3 48 Try.underlying28 hi87 hz87 hs87 hb87 rfl (by omega) (.slice ap os.length cp) os.length xs rfl ((HOX.out.alloc _).alloc _) ⟨wr.heap.size + 1, 0, none⟩ 1 1 [.int .i64 3, .string ⟨#[]⟩, .slice (some ⟨wr.heap.size, 0, none⟩) 2 2] rfl rfl (World.news_of_block (cs := #[.int .i64 3, .string ⟨#[]⟩, .slice (some ⟨wr.heap.size, 0, none⟩) 2 2]) (t := 87) (fr := (0, 0)) (alloc2_block wr _ _ 0)) (by intro u hu; simp at hu; rcases hu with rfl | rfl | rfl <;> rfl) (by omega) (by unfold maxLen; omega) (by omega) (by simp; omega) (wr.heap.size + 1 + 1) (by simp) ?_
               intro g4 cap4 w4 hown4 hgrow4 hat4 hlt4
               have k74 : w4.heap[w.heap.size + 1 + 1 + 1]? = some (.cells #[.slice ap os.length cp] 30 (0, 0)) := (hgrow4.block _ (by simp; omega) HF3.out).trans (((bel_alloc (bel_alloc (Below.refl wr.heap.size wr) _) _).block _ (by omega)).trans HS.out.k7)
               have f74 : w4.frozen? ⟨w.heap.size + 1 + 1 + 1, 0, none⟩ = false := frozen_of_row k74
               have c74 : w4.cell? ⟨w.heap.size + 1 + 1 + 1, 0, none⟩ = some (.slice ap os.length cp) := (cell_of_row _ _ _ _ _ _ k74).trans rfl
               have HL := hide (LwSt.snoc (nd := ⟨3, ⟨#[]⟩, [((ns.length - 1 : Nat) : Int), ((ns.length + ns2.length - 1 : Nat) : Int)]⟩) (HS.out.keep (bel_alloc (bel_alloc (Below.refl wr.heap.size wr) _) _)) (Nat.le_refl _) ((HOX.out.alloc _).alloc _) (fun i hi => by { obtain ⟨q1, q2, q3, q4, q5⟩ := HX.out i hi; exact ⟨q1, q2, q3, q4, q5.keep (bel_alloc (bel_alloc (Below.refl wr.heap.size wr) _) _)⟩ }) HK.out hgrow4 hown4)
               have x6 : (w4.setCell ⟨w.heap.size + 1 + 1 + 1, 0, none⟩ (.slice (some ⟨g4, 0, none⟩) (os.length + 1) cap4)).cell? ⟨w.heap.size + 1 + 1, 0, none⟩ = some (.slice none 0 0) := (cell_of_row _ _ _ _ _ _ HL.out.k6).trans rfl
               have x6f : (w4.setCell ⟨w.heap.size + 1 + 1 + 1, 0, none⟩ (.slice (some ⟨g4, 0, none⟩) (os.length + 1) cap4)).frozen? ⟨w.heap.size + 1 + 1, 0, none⟩ = false := frozen_of_row HL.out.k6
               have y6 : w4.cell? ⟨w.heap.size + 1 + 1, 0, none⟩ = some (.slice none 0 0) := by { have h := x6; rw [World.cell?_setCell_far _ _ _ _ (by simp)] at h; exact h }
               clear hown4 hgrow4 hat4 hlt4 k74)
            | fail)
          obtain ⟨W9, hW9⟩ : ∃ W9, W9 = w4.setCell ⟨w.heap.size + 1 + 1 + 1, 0, none⟩ (.slice (some ⟨g4, 0, none⟩) (os.length + 1) cap4) := ⟨_, rfl⟩
          rw [← hW9] at HL x6 x6f ⊢
          clear hW9
          refine bodyPost_ret (v := .agg #[.slice (some ⟨g4, 0, none⟩) (os.length + 1) cap4]) (by simp [results, go_sem, x6]) rfl ?_
          have hn := HL.out.nd.set (l := w.heap.size + 2) (o := 0) (by decide) (by decide) HL.out.k6 (.slice (some ⟨g4, 0, none⟩) (os.length + 1) cap4)
          have hr := hn.row
          have hb := HL.out.bel.setCell (p := ⟨w.heap.size + 2, 0, none⟩) (by show w.heap.size ≤ w.heap.size + 2; omega) (.slice (some ⟨g4, 0, none⟩) (os.length + 1) cap4)
          refine ⟨g4, cap4, by rw [HOL.out], ?_, hb⟩
          rw [← List.append_assoc, ← HOE.out]
          exact hr
end Go.Proofs.Ytnhkpmgfgiolbaa
