/- What the specification's l3Long and DrawPut answer. -/
import Derived.Test.YtjkkojefpecbfaaGreatApS
import Derived.Test.YtjkkojefpecbfaaGreatAnyC
import Derived.Deep.LoopGhost
import Derived.Deep.CutRange
import Derived.Test.YtjkkojefpecbfaaGreatTFTree
import Derived.Test.YtjkkojefpecbfaaGreatTFields
namespace Go.Proofs.YtjkkojefpecbfaaGreat
open Go.ChangeShapes Go.WideShapes Go.ChangeAt Go.RowKit

set_option maxRecDepth 20000 in
set_option maxHeartbeats 8000000 in
theorem l3Long_any (n : Int) (j : Nat) (hn : n = ((2 * j + 1 : Nat) : Int) ∨ n = ((2 * j + 2 : Nat) : Int)) (hj : j ≤ 5000) (w : World) :
    Calls Tryz.prog 85 #[.int .i64 n] w fun e w' => ∃ p, e = .returned (.pointer (some ⟨p, 0, none⟩)) ∧ SpG (fun _ => True) w' (longT j) p ∧ Below w.heap.size w w' := by
  have HN := hide hn
  have hnb : n ≤ 10002 := by omega
  clear hn
  go_enter Tryz.func85, Tryz.ntmps85
  go_wp2_with fail
  refine (l3Var_any (fun _ => True) 0 w (by omega)).mono ?_
  rintro e w1 ⟨p, rfl, hS1, hb1⟩
  unfold ptrV
  have HS1 : Hid (SpG (fun _ => True) w1 (longT 0) p) := hS1
  have HB1 := hide hb1
  clear hS1 hb1
  go_wp2_with fail
  go_loopg [3] j (fun k t wr => ∃ (i q : Nat), i + k = j ∧ t = .pointer (some ⟨q, 0, none⟩) ∧ Hid (SpG (fun _ => True) wr (longT i) q) ∧ Hid (Below w.heap.size w wr))
  case atStart => exact ⟨0, p, by omega, rfl, HS1, HB1⟩
  case round =>
    clear HS1 HB1
    obtain ⟨i, q, hik, rfl, HSJ, HBJ⟩ := hrel
    have HIK := hide hik
    have hij : i ≤ 5000 := by omega
    clear hik
    have c6 := (spg_sz HSJ.out).cells.1
    rw [longT_sz i hij] at c6
    have lq := lt_cell c6
    have hw2 : IntKind.i64.wrap (((2 * i + 1 : Nat) : Int) + 2) = ((2 * i + 3 : Nat) : Int) := by rw [IntKind.wrap_i64]; omega
    obtain ⟨s, hs⟩ : ∃ s : Nat, s = 2 * i + 1 := ⟨_, rfl⟩
    have HSE := hide hs
    rw [← hs] at c6 hw2
    obtain ⟨s3, hs3⟩ : ∃ s3 : Int, s3 = ((2 * i + 3 : Nat) : Int) := ⟨_, rfl⟩
    have HS3 := hide hs3
    rw [← hs3] at hw2
    obtain ⟨m, hm, hml, HME⟩ : ∃ m : Nat, (s : Int).tmod 3 = (m : Int) ∧ m < 3 ∧ Hid (m = s % 3) := ⟨s % 3, tmod_is (m := 3), Nat.mod_lt _ (by omega), rfl⟩
    have hwm := wrap_nat m (by omega)
    clear hs hs3
    by_cases hlt : i < j
    · have hle : s3 ≤ n := by have := HS3.out; have := HN.out; omega
      have dle : decide (s3 ≤ n) = true := by simp [hle]
      have HC := hide (l3Var_any (fun _ => True) (m : Int) wr (by omega))
      have HLT := hide hlt
      clear hlt
      go_wp2_with fail
      refine HC.out.mono ?_
      rintro e w2 ⟨q2, rfl, hS2, hb2⟩
      unfold ptrV
      have HD := hide (l3AppQ_any (Q := fun _ => True) (longT i) (varT (m : Int)) q q2 w2 trivial (HSJ.out.keep hb2) hS2 (all_mono node_num (longT_node i)) (fun _ => ⟨by show (0 : Int) ≤ (m : Int); omega, by show (m : Int) ≤ 1000000; omega⟩))
      have HB2 := hide (bel_trans HBJ.out hb2)
      clear hS2 hb2 HC
      go_wp2_with fail
      refine HD.out.mono ?_
      rintro e w3 ⟨q3, rfl, hS3, hb3⟩
      unfold ptrV
      have HS3' : Hid (SpG (fun _ => True) w3 (longT (i + 1)) q3) := by
        show SpG _ _ _ _
        rw [HME.out, HSE.out] at hS3
        exact hS3
      have HB3 := hide (bel_trans HB2.out hb3)
      clear hS3 hb3 HD
      go_wp2_with fail
      go_roundg (j - (i + 1))
      case rel => exact ⟨i + 1, q3, by have := HLT.out; omega, rfl, HS3', HB3⟩
      case measure => have := HIK.out; have := HLT.out; omega
    · have hle : ¬ s3 ≤ n := by have := HS3.out; have := HN.out; have := HIK.out; omega
      have dle : decide (s3 ≤ n) = false := by simp [hle]
      have e : i = j := by have := HIK.out; omega
      have HSF : Hid (SpG (fun _ => True) wr (longT j) q) := by show SpG _ _ _ _; rw [← e]; exact HSJ.out
      clear e hlt
      go_wp2_with fail
      go_ret
      exact ⟨q, rfl, HSF.out, HBJ.out⟩
theorem frt_of {w w' : World} {g cap : Nat} {T : Tt} (ht : TmQ (fun b => w.heap.size < b ∧ b ≠ g) w.heap.size w' (.slice (some ⟨g, 0, none⟩) (T.flat 0).length cap) (T.flat 0)) (hg : w.heap.size < g) : FrT w.heap.size w' (.slice (some ⟨g, 0, none⟩) (T.flat 0).length cap) (T.flat 0) := fun w8 hw8 => by
  have hg7l : g < w'.heap.size := by obtain ⟨xs, q1, _⟩ := ht; exact (World.ownsRow.lt q1 g rfl).2
  exact nodes_fr ht (fun q hq => hw8 q (by simp [Value.ownBlock] at hq; omega) (by simp [Value.ownBlock] at hq; omega)) (fun b hb hl => hw8 b (by omega) hl)
theorem two_lev : (Tt.t2 appH (varT 0) (varT 0)).all levP := ⟨app_lev, var_levL 0, var_levL 0⟩
def longs : List Int := [9998, 9999, 10000, 10001]
set_option maxRecDepth 20000 in
set_option maxHeartbeats 16000000 in
theorem drawPut_any (a : Option Addr) (bs : List UInt8) (cap : Nat) (w : World) (h : CodeAt w a bs) (hn : bs.length ≤ cap) (hc : cap ≤ maxLen) :
    Calls Tryz.prog 44 #[.slice a bs.length cap] w fun e w' => ∃ v1 v2, e = .returned (.tuple #[.agg #[v1], .agg #[v2]]) ∧ FrT w.heap.size w' v1 (dp1 ⟨bs.take 1000, 0⟩) ∧ FrT w.heap.size w' v2 (dp2 ⟨bs.take 1000, 0⟩) ∧ Below w.heap.size w w' ∧ LvQ (dp1 ⟨bs.take 1000, 0⟩) ∧ LvQ (dp2 ⟨bs.take 1000, 0⟩) := by
  obtain ⟨W1, hW1⟩ : ∃ W1, W1 = (w.alloc (.cells #[.slice none 0 0] 28)).alloc (.cells #[.slice none 0 0] 28) := ⟨_, rfl⟩
  have hb1 : Below w.heap.size w W1 := by rw [hW1]; exact bel_alloc (bel_alloc (Below.refl _ _) _) _
  have hr1 : W1.heap[w.heap.size]? = some (.cells #[.slice none 0 0] 28 (0, 0)) := by rw [hW1, heap_alloc_old _ _ (by simp)]; exact heap_alloc_new w _
  have hr2 : W1.heap[w.heap.size + 1]? = some (.cells #[.slice none 0 0] 28 (0, 0)) := by rw [hW1]; exact heap_alloc_at _ _ (by simp)
  have l1 : w.heap.size + 1 < W1.heap.size := (Array.getElem?_eq_some_iff.1 hr2).1
  have HO := hide (l1Open_any a bs cap W1 (h.keep hb1) hn hc)
  have HX1 := hide hr1
  have HY1 := hide hr2
  have HB1 := hide hb1
  obtain ⟨ρ, hρ⟩ : ∃ ρ : Pl, ρ = ⟨bs.take 1000, 0⟩ := ⟨_, rfl⟩
  rw [← hρ] at HO ⊢
  obtain ⟨T1, hT1⟩ : ∃ T1, T1 = dp1 ρ := ⟨_, rfl⟩
  obtain ⟨T2, hT2⟩ : ∃ T2, T2 = dp2 ρ := ⟨_, rfl⟩
  rw [← hT1, ← hT2]
  have HT1 := hide hT1
  have HT2 := hide hT2
  clear h hn hc hb1 hr1 hr2 hρ hT1 hT2
  go_enter Tryz.func44, Tryz.ntmps44
  go_upto_region 1 with fail
  rw [← hW1]
  clear hW1
  go_wp2_with fail
  refine HO.out.mono ?_
  rintro e w2 ⟨rfl, hr2, hb2⟩
  have hb2s := hb2.size
  have HX2 : Hid (w2.heap[w.heap.size]? = some (.cells #[.slice none 0 0] 28 (0, 0))) := (hb2.block _ (by omega)).trans HX1.out
  have HY2 : Hid (w2.heap[w.heap.size + 1]? = some (.cells #[.slice none 0 0] 28 (0, 0))) := (hb2.block _ (by omega)).trans HY1.out
  have HB2 := hide (HB1.out.trans (hb2.mono (by omega)))
  have HH2 := hide hr2
  have hRlt := hr2.lt
  obtain ⟨R, hR⟩ : ∃ R, R = W1.heap.size := ⟨_, rfl⟩
  rw [← hR] at HH2 hRlt l1 ⊢
  clear HO HX1 HY1 HB1 hr2 hb2 hb2s hR
  clear W1
  go_wp2_with fail
  refine (next_any R R w2 HH2.out).mono ?_
  rintro e w3 ⟨v, rfl, hv0, hv1, hr3, hg3, hve⟩
  have hg3s := hg3.size
  have HX3 : Hid (w3.heap[w.heap.size]? = some (.cells #[.slice none 0 0] 28 (0, 0))) := (hg3.block _ (by omega) (fun e => by have := Option.some.inj e; omega)).trans HX2.out
  have HY3 : Hid (w3.heap[w.heap.size + 1]? = some (.cells #[.slice none 0 0] 28 (0, 0))) := (hg3.block _ (by omega) (fun e => by have := Option.some.inj e; omega)).trans HY2.out
  have HB3 := hide (HB2.out.grown hg3 (by omega) (fun k hk => by have := Option.some.inj hk; omega))
  have HVE := hide hve
  have HC3 := hide (l3Any_any R R w3 hr3)
  clear hr3 hg3 hve HX2 HY2 HB2 HH2
  go_wp2_with fail
  refine HC3.out.mono ?_
  rintro e w4 ⟨v4, rfl, hf4, hb4, hq4, hrd4, hko4⟩
  have hb4s := hb4.size
  have HX4 : Hid (w4.heap[w.heap.size]? = some (.cells #[.slice none 0 0] 28 (0, 0))) := (hb4.block _ (by omega)).trans HX3.out
  have HY4 : Hid (w4.heap[w.heap.size + 1]? = some (.cells #[.slice none 0 0] 28 (0, 0))) := (hb4.block _ (by omega)).trans HY3.out
  have HB4 := hide (HB3.out.trans (hb4.mono (by omega)))
  have HF4 := hide hf4
  have HQ4 := hide hq4
  have HH4 := hide hrd4
  obtain ⟨a4, c4, rfl⟩ := hf4.form
  clear hf4 hb4 hq4 hrd4 hko4 HX3 HY3 HB3 HC3
  obtain ⟨n4, hn4⟩ : ∃ n4, n4 = (anyT ρ.n).length := ⟨_, rfl⟩
  rw [← hn4] at HF4 ⊢
  clear hn4
  obtain ⟨W5, hW5⟩ : ∃ W5, W5 = w4.alloc (.cells #[.slice a4 n4 c4] 28) := ⟨_, rfl⟩
  have hb5 : Below w4.heap.size w4 W5 := by rw [hW5]; exact bel_alloc (Below.refl _ _) _
  have hb5s := hb5.size
  have b5 : W5.cell? ⟨w4.heap.size, 0, none⟩ = some (.slice a4 n4 c4) := by rw [hW5]; simp [go_sem]
  have l5 := lt_cell b5
  go_upto_region 4 with fail
  rw [← hW5]
  have HX5 : Hid (W5.heap[w.heap.size]? = some (.cells #[.slice none 0 0] 28 (0, 0))) := (hb5.block _ (by omega)).trans HX4.out
  have HY5 : Hid (W5.heap[w.heap.size + 1]? = some (.cells #[.slice none 0 0] 28 (0, 0))) := (hb5.block _ (by omega)).trans HY4.out
  have HB5 := hide (HB4.out.trans (hb5.mono (by omega)))
  have HH5 := hide (HH4.out.keep hb5)
  have HF5 : Hid (FrT w3.heap.size W5 (.slice a4 n4 c4) (anyT ρ.n)) := HF4.out.keep hb5
  have hRl5 := HH5.out.lt
  have hRw3 : R < w3.heap.size := by omega
  clear hW5 hb5 HX4 HY4 HB4 HH4 HF4
  obtain ⟨nb, hnb⟩ : ∃ nb, nb = w4.heap.size := ⟨_, rfl⟩
  have hnb3 : w3.heap.size ≤ nb := by omega
  rw [← hnb] at b5 l5 ⊢
  clear hnb hb4s hb5s
  by_cases hk : v = 255
  · have dk : (v == 255) = true := beq_iff_eq.2 hk
    have HT1' : Hid (T1 = (Tt.t2 appH (varT 0) (varT 0)).flat 0) := by show _ = _; rw [HT1.out]; unfold dp1; rw [if_pos (by have := HVE.out; omega)]
    have HT2' : Hid (T2 = (longT (halves.getD ((anyTP ρ.n).v % 4) 0)).flat 0) := by show _ = _; rw [HT2.out]; unfold dp2; rw [if_pos (by have := HVE.out; omega)]
    clear HT1 HT2 HF5 HQ4 hk b5
    go_wp2_with fail
    refine (l3Var_any (fun _ => True) 0 W5 (by omega)).mono ?_
    rintro e w6 ⟨p6, rfl, hS6, hb6⟩
    unfold ptrV
    have HS6 := hide hS6
    have HB6 := hide hb6
    have hs6 := hb6.size
    clear hS6 hb6
    go_wp2_with fail
    refine (l3Var_any (fun _ => True) 0 w6 (by omega)).mono ?_
    rintro e w7 ⟨p7, rfl, hS7, hb7⟩
    unfold ptrV
    have HS7 := hide hS7
    have HS6 := hide (HS6.out.keep hb7)
    have HB7 := hide (bel_trans HB6.out hb7)
    have hs7 := hb7.size
    clear hS7 hb7
    obtain ⟨W8, hW8⟩ : ∃ W8, W8 = w7.alloc (.cells #[.pointer (some ⟨p7, 0, none⟩)] 72) := ⟨_, rfl⟩
    have hb8 : Below w7.heap.size w7 W8 := by rw [hW8]; exact bel_alloc (Below.refl _ _) _
    have hs8 := hb8.size
    have ho8 : W8.ownsRow w7.heap.size 72 1 (.slice (some ⟨w7.heap.size, 0, none⟩) 1 1) 1 ([p7].map ptrV) := by
      rw [hW8]
      exact ⟨rfl, .inr ⟨w7.heap.size, 1, #[.pointer (some ⟨p7, 0, none⟩)], rfl, Nat.le_refl _, heap_alloc_new w7 _, Nat.le_refl _, by unfold maxLen; omega, rfl, rfl⟩⟩
    have HA8 := hide (l3Apps_any w7.heap.size (varT 0) p6 [varT 0] [p7] (.slice (some ⟨w7.heap.size, 0, none⟩) 1 1) W8 (HS6.out.keep hb8) (fun _ => ⟨by show (0 : Int) ≤ 0; omega, by show (0 : Int) ≤ 1000000; omega⟩) rfl (fun i h1 h2 => by
      have e : i = 0 := by simp at h1; omega
      subst e
      exact HS7.out.keep hb8) (fun x hx => by rw [List.mem_singleton.1 hx]; exact fun _ => ⟨by show (0 : Int) ≤ 0; omega, by show (0 : Int) ≤ 1000000; omega⟩) ho8 (by simp))
    have HB8 := hide (bel_trans HB7.out hb8)
    clear hb8 ho8 HS6 HS7 HB6 HB7
    go_wp2_with fail
    first | rw [← hW8] | skip
    refine HA8.out.mono ?_
    rintro e w9 ⟨p9, rfl, hS9, hb9⟩
    unfold ptrV
    have hS9 : SpG (fun _ => True) w9 (Tt.t2 appH (varT 0) (varT 0)) p9 := hS9
    have HC9 := hide (l3TermQ_any _ _ p9 w9 hS9 two_lev (by simp [Tt.cnt, varT]))
    have HB9 := hide (bel_trans HB8.out hb9)
    have hs9 := hb9.size
    clear hS9 hb9 hW8 HA8 HB8
    go_wp2_with fail
    refine HC9.out.mono ?_
    rintro e w10 ⟨g10, cap10, rfl, ht10, hg10, hb10⟩
    have HF10 := hide (frt_of ht10 hg10)
    have HB10 := hide (bel_trans HB9.out hb10)
    have hs10 := hb10.size
    clear ht10 hb10 HC9 HB9
    obtain ⟨n1, hn1⟩ : ∃ n1, n1 = ((Tt.t2 appH (varT 0) (varT 0)).flat 0).length := ⟨_, rfl⟩
    rw [← hn1] at HF10 ⊢
    obtain ⟨W11, hW11⟩ : ∃ W11, W11 = w10.alloc (.cells #[.int .i64 9998, .int .i64 9999, .int .i64 10000, .int .i64 10001] 3) := ⟨_, rfl⟩
    have hb11 : Below w10.heap.size w10 W11 := by rw [hW11]; exact bel_alloc (Below.refl _ _) _
    have hs11 := hb11.size
    have hl11 : w10.heap.size < W11.heap.size := by rw [hW11]; simp
    have HR11 : Hid (RdAt (anyTP ρ.n) R W11 R) := (HH5.out.keep HB10.out).keep hb11
    have HF11 := hide (HF10.out.keep hb11)
    have HB11 := hide (bel_trans HB10.out hb11)
    have HL11 : Hid (∀ i, i < 4 → W11.cell? ⟨w10.heap.size, i, none⟩ = some (.int .i64 (longs.getD i 0))) := fun i hi => by
      rw [hW11, cell_of_row _ _ _ _ _ _ (heap_alloc_new w10 _)]
      rcases (show i = 0 ∨ i = 1 ∨ i = 2 ∨ i = 3 by omega) with e | e | e | e <;> rw [e] <;> rfl
    clear hb11 hn1 HB10 HF10
    go_wp2_with fail
    first | rw [← hW11] | skip
    refine (next_any R R W11 HR11.out).mono ?_
    rintro e w12 ⟨v12, rfl, hv120, hv121, hr12, hg12, hve12⟩
    have hs12 := hg12.size
    obtain ⟨m, hm, hml, HME⟩ : ∃ m : Nat, v12.tmod 4 = (m : Int) ∧ m < 4 ∧ Hid (m = (anyTP ρ.n).v % 4) := ⟨(anyTP ρ.n).v % 4, by rw [hve12]; exact tmod_is (m := 4), Nat.mod_lt _ (by omega), rfl⟩
    have hwm := wrap_nat m (by omega)
    have hml' : (m : Int) < 4 := by omega
    have cm : w12.cell? ⟨w10.heap.size, m, none⟩ = some (.int .i64 (longs.getD m 0)) := heap_cell (hg12.block _ hl11 (fun e => by have := Option.some.inj e; omega)) (HL11.out m hml)
    have lcm := lt_cell cm
    have HX12 : Hid (w12.heap[w.heap.size]? = some (.cells #[.slice none 0 0] 28 (0, 0))) := (hg12.block _ (by omega) (fun e => by have := Option.some.inj e; omega)).trans ((HB11.out.block _ (by omega)).trans HX5.out)
    have HY12 : Hid (w12.heap[w.heap.size + 1]? = some (.cells #[.slice none 0 0] 28 (0, 0))) := (hg12.block _ (by omega) (fun e => by have := Option.some.inj e; omega)).trans ((HB11.out.block _ (by omega)).trans HY5.out)
    have HB12 : Hid (Below w.heap.size w w12) := (HB5.out.trans (HB11.out.mono (by omega))).grown hg12 (by omega) (fun k hk => by have := Option.some.inj hk; omega)
    have HF12 : Hid (FrT w9.heap.size w12 (.slice (some ⟨g10, 0, none⟩) n1 cap10) _) := HF11.out.to (Nat.le_refl _) hg12.size (fun b q1 q2 => hg12.block b q2 (fun e => by have := Option.some.inj e; omega))
    have HC12 := hide (l3Long_any (longs.getD m 0) (halves.getD m 0) (by rcases (show m = 0 ∨ m = 1 ∨ m = 2 ∨ m = 3 by omega) with e | e | e | e <;> rw [e] <;> decide) (by rcases (show m = 0 ∨ m = 1 ∨ m = 2 ∨ m = 3 by omega) with e | e | e | e <;> rw [e] <;> decide) w12)
    have HHB : Hid (halves.getD m 0 ≤ 5000) := by show _ ≤ _; rcases (show m = 0 ∨ m = 1 ∨ m = 2 ∨ m = 3 by omega) with e | e | e | e <;> rw [e] <;> decide
    generalize longs.getD m 0 = ln at *
    clear hr12 hg12 hve12 HR11 HL11 HF11 HB11 HX5 HY5 HB5 HH5 hW11
    go_wp2_with fail
    refine HC12.out.mono ?_
    rintro e w13 ⟨p13, rfl, hS13, hb13⟩
    have hs13 := hb13.size
    have HC13 := hide (l3TermQ_any _ _ p13 w13 hS13 (longT_all (fun n _ _ => var_levL n) app_lev _) (by rw [longT_cnt]; have := HHB.out; omega))
    have HB13 := hide hb13
    clear hS13 hb13 HC12
    go_wp2_with fail
    refine HC13.out.mono ?_
    rintro e w14 ⟨g14, cap14, rfl, ht14, hg14, hb14⟩
    have HF14 := hide (frt_of ht14 hg14)
    have hs14 := hb14.size
    have HB14 := hide (bel_trans HB13.out hb14)
    have hx14 : w14.heap[w.heap.size]? = some (.cells #[.slice none 0 0] 28 (0, 0)) := (HB14.out.block _ (by omega)).trans HX12.out
    have hy14 : w14.heap[w.heap.size + 1]? = some (.cells #[.slice none 0 0] 28 (0, 0)) := (HB14.out.block _ (by omega)).trans HY12.out
    have HG14 := hide (HF12.out.keep HB14.out)
    have HBZ := hide (HB12.out.trans (HB14.out.mono (by omega)))
    clear ht14 hb14 HC13 HB13 HX12 HY12 HB12 HF12 HB14
    obtain ⟨n2, hn2⟩ : ∃ n2, n2 = ((longT (halves.getD m 0)).flat 0).length := ⟨_, rfl⟩
    rw [← hn2] at HF14 ⊢
    clear hn2
    have x0 : w14.cell? ⟨w.heap.size, 0, none⟩ = some (.slice none 0 0) := by rw [Lib.cell_of_heap hx14]; rfl
    have y0 : w14.cell? ⟨w.heap.size + 1, 0, none⟩ = some (.slice none 0 0) := by rw [Lib.cell_of_heap hy14]; rfl
    have xf : w14.frozen? ⟨w.heap.size, 0, none⟩ = false := Lib.frozen_of_heap hx14 0
    have yf : w14.frozen? ⟨w.heap.size + 1, 0, none⟩ = false := Lib.frozen_of_heap hy14 0
    have lx := lt_cell x0
    have ly := lt_cell y0
    have HQ1 : Hid (LvQ T1) := by show LvQ T1; rw [HT1'.out]; exact lvq_flat two_lev
    have HQ2 : Hid (LvQ T2) := by show LvQ T2; rw [HT2'.out]; exact lvq_flat (longT_all (fun n _ _ => var_levL n) app_lev _)
    have HA1 : Hid (FrT w9.heap.size w14 (.slice (some ⟨g10, 0, none⟩) n1 cap10) T1) := by show FrT _ _ _ _; rw [HT1'.out]; exact HG14.out
    have HA2 : Hid (FrT w13.heap.size w14 (.slice (some ⟨g14, 0, none⟩) n2 cap14) T2) := by show FrT _ _ _ _; rw [HT2'.out, ← HME.out]; exact HF14.out
    clear hx14 hy14 HF14 HG14 HT1' HT2'
    go_wp2_with fail
    refine bodyPost_ret (v := .tuple #[.agg #[.slice (some ⟨g10, 0, none⟩) n1 cap10], .agg #[.slice (some ⟨g14, 0, none⟩) n2 cap14]]) (by simp [results, Tryz.results44, go_sem, x0, y0]) rfl ⟨_, _, rfl, ?_, ?_, ?_, HQ1.out, HQ2.out⟩
    · exact (HA1.out.low (B' := w9.heap.size) (Nat.le_refl _) (p := ⟨_, _, _⟩) (by show w.heap.size < _; omega) _).low (by omega) (p := ⟨_, _, _⟩) (by show w.heap.size + 1 < _; omega) _
    · exact (HA2.out.low (B' := w13.heap.size) (Nat.le_refl _) (p := ⟨_, _, _⟩) (by show w.heap.size < _; omega) _).low (by omega) (p := ⟨_, _, _⟩) (by show w.heap.size + 1 < _; omega) _
    · exact (HBZ.out.setCell (p := ⟨_, _, _⟩) (by show w.heap.size ≤ w.heap.size; omega) _).setCell (p := ⟨_, _, _⟩) (by show w.heap.size ≤ w.heap.size + 1; omega) _
  · have dk : (v == 255) = false := beq_eq_false_iff_ne.2 hk
    have HT1' : Hid (T1 = anyT ρ.n) := by show _ = _; rw [HT1.out]; unfold dp1; rw [if_neg (by have := HVE.out; omega)]
    have HT2' : Hid (T2 = anyT (anyTP ρ.n)) := by show _ = _; rw [HT2.out]; unfold dp2; rw [if_neg (by have := HVE.out; omega)]
    have HQ1 : Hid (LvQ T1) := by show LvQ T1; rw [HT1'.out]; exact HQ4.out
    have HC5 : Hid (∀ V : World, Below W5.heap.size W5 V → Calls Tryz.prog 83 #[.pointer (some ⟨R, 0, none⟩)] V fun e w' => ∃ v, e = .returned (.agg #[v]) ∧ FrT V.heap.size w' v (anyT (anyTP ρ.n)) ∧ Below R V w' ∧ LvQ (anyT (anyTP ρ.n)) ∧ RdAt (anyTP (anyTP ρ.n)) R w' R ∧ ∀ b : Nat, b < V.heap.size → b ≠ R → w'.heap[b]? = V.heap[b]?) := fun V hV => l3Any_any R R V (HH5.out.keep hV)
    clear HT1 HT2 HQ4 hk
    have x5 : W5.cell? ⟨w.heap.size, 0, none⟩ = some (.slice none 0 0) := by rw [Lib.cell_of_heap HX5.out]; rfl
    have y5 : W5.cell? ⟨w.heap.size + 1, 0, none⟩ = some (.slice none 0 0) := by rw [Lib.cell_of_heap HY5.out]; rfl
    have xf5 : W5.frozen? ⟨w.heap.size, 0, none⟩ = false := Lib.frozen_of_heap HX5.out 0
    have yf5 : W5.frozen? ⟨w.heap.size + 1, 0, none⟩ = false := Lib.frozen_of_heap HY5.out 0
    have lx5 := lt_cell x5
    have ly5 := lt_cell y5
    go_upto_region 6 with fail
    go_region_with (first
      | (go_at_call 83
         refine (HC5.out _ (by repeat (first | exact Below.refl _ _ | apply Below.drew))).mono ?_
         rintro e w7 ⟨v7, rfl, hf7, hb7, hq7, hrd7, hko7⟩
         have hb7' : Below R W5 w7 := by { first | exact hb7 | exact (Below.refl _ _).drew.trans hb7 }
         have hf7' : FrT W5.heap.size w7 v7 (anyT (anyTP ρ.n)) := hf7
         have hko7' : ∀ b : Nat, b < W5.heap.size → b ≠ R → w7.heap[b]? = W5.heap[b]? := hko7
         have hs7 := hb7'.size
         obtain ⟨a7, c7, rfl⟩ := hf7'.form
         have b7 : w7.cell? ⟨nb, 0, none⟩ = some (.slice a4 n4 c4) := heap_cell (hko7' nb l5 (by omega)) b5
         have lb7 := lt_cell b7
         have hx7 : w7.heap[w.heap.size]? = some (.cells #[.slice none 0 0] 28 (0, 0)) := (hko7' _ (by omega) (by omega)).trans HX5.out
         have hy7 : w7.heap[w.heap.size + 1]? = some (.cells #[.slice none 0 0] 28 (0, 0)) := (hko7' _ (by omega) (by omega)).trans HY5.out
         have x7 : w7.cell? ⟨w.heap.size, 0, none⟩ = some (.slice none 0 0) := by { rw [Lib.cell_of_heap hx7]; rfl }
         have y7 : w7.cell? ⟨w.heap.size + 1, 0, none⟩ = some (.slice none 0 0) := by { rw [Lib.cell_of_heap hy7]; rfl }
         have xf7 : w7.frozen? ⟨w.heap.size, 0, none⟩ = false := Lib.frozen_of_heap hx7 0
         have yf7 : w7.frozen? ⟨w.heap.size + 1, 0, none⟩ = false := Lib.frozen_of_heap hy7 0
         have lx7 := lt_cell x7
         have ly7 := lt_cell y7
         have HA1 : Hid (FrT w3.heap.size w7 (.slice a4 n4 c4) T1) := by { show FrT _ _ _ _; rw [HT1'.out]; exact HF5.out.to (Nat.le_refl _) hs7 (fun b q1 q2 => hko7' b q2 (by omega)) }
         have HA2 : Hid (FrT W5.heap.size w7 (.slice a7 (anyT (anyTP ρ.n)).length c7) T2) := by { show FrT _ _ _ _; rw [HT2'.out]; exact hf7' }
         have HQ2 : Hid (LvQ T2) := by { show LvQ T2; rw [HT2'.out]; exact hq7 }
         have HBZ := hide (HB5.out.trans (hb7'.mono (by omega)))
         obtain ⟨n7, hn7⟩ : ∃ n7, n7 = (anyT (anyTP ρ.n)).length := ⟨_, rfl⟩
         rw [← hn7] at HA2 ⊢
         clear hn7 hx7 hy7 hf7 hf7' hb7 hb7' hko7 hko7' hq7 hrd7)
      | fail)
    all_goals go_wp2_with fail
    all_goals (
      refine bodyPost_ret (v := .tuple #[.agg #[.slice a4 n4 c4], .agg #[.slice a7 n7 c7]]) (by simp [results, Tryz.results44, go_sem, x7, y7]) rfl ⟨_, _, rfl, ?_, ?_, ?_, HQ1.out, HQ2.out⟩
      · exact (HA1.out.low (B' := w3.heap.size) (Nat.le_refl _) (p := ⟨_, _, _⟩) (by show w.heap.size < _; omega) _).low (by omega) (p := ⟨_, _, _⟩) (by show w.heap.size + 1 < _; omega) _
      · exact (HA2.out.low (B' := W5.heap.size) (Nat.le_refl _) (p := ⟨_, _, _⟩) (by show w.heap.size < _; omega) _).low (by omega) (p := ⟨_, _, _⟩) (by show w.heap.size + 1 < _; omega) _
      · exact (HBZ.out.setCell (p := ⟨_, _, _⟩) (by show w.heap.size ≤ w.heap.size; omega) _).setCell (p := ⟨_, _, _⟩) (by show w.heap.size ≤ w.heap.size + 1; omega) _)
end Go.Proofs.YtjkkojefpecbfaaGreat

/- What the specification's TermOk answers. -/
namespace Go.Proofs.YtjkkojefpecbfaaGreat
open Go.ChangeShapes Go.WideShapes Go.ChangeAt Go.RowKit

set_option maxHeartbeats 1000000 in
theorem specTermOk_any (v : Value) (ts : List Td) (w : World) (hns : TNodesAt w v ts) (hsz : ∀ td ∈ ts, TLens td) (hlv : ∀ td ∈ ts, td.lv.length ≤ 1048576) :
    Calls Tryz.prog 43 #[.agg #[v]] w fun e w' => e = .returned (.bool (termB ts)) ∧ Below w.heap.size w w' := by
  have HN := hide hns
  have HZ := hide hsz
  have HL := hide hlv
  obtain ⟨a, cap, rfl, _, _, _⟩ := hns
  clear hsz hlv
  go_enter Tryz.func43, Tryz.ntmps43
  go_wp2_with fail
  refine (l3TreeF_any _ ts _ (HN.out.keep (bel_alloc (Below.refl _ _) _)) HZ.out HL.out).mono ?_
  rintro e w1 ⟨(⟨hl, rfl⟩ | ⟨hl, _, pt, Q, rfl, _⟩), hb⟩
  · have hbel := (bel_alloc (Below.refl w.heap.size w) _).trans (hb.mono (by simp))
    go_wp2_with (go_at_call 48; refine (tnone_none _).mono ?_; rintro e w' ⟨rfl, rfl⟩)
    go_ret
    exact ⟨by simp [hl], hbel⟩
  · have hbel := (bel_alloc (Below.refl w.heap.size w) _).trans (hb.mono (by simp))
    go_wp2_with (go_at_call 48; refine (tnone_some _ _).mono ?_; rintro e w' ⟨rfl, rfl⟩)
    go_ret
    exact ⟨by simp [hl], hbel⟩
end Go.Proofs.YtjkkojefpecbfaaGreat
