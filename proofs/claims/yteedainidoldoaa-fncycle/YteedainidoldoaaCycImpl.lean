/- What the program's Cycle answers: just whether the list is a cycle. -/
import Derived.Test.YteedainidoldoaaCyc
import Derived.BigQuiet
namespace Go.Proofs.Yteedainidoldoaa
open Go.ChangeShapes Go.WideShapes Go.ChangeAt Go.RowKit

/-- The place in front of place k, around the list. -/
def pv (L k : Nat) : Nat := if k = 0 then L - 1 else k - 1
theorem pv_lt {L k : Nat} (h : 0 < L) (hk : k ≤ L) : pv L k < L := by unfold pv; split <;> omega
theorem pv_next {L k : Nat} (hk : k < L) : (pv L k + 1) % L = k := by
  unfold pv
  by_cases h : k = 0
  · subst h
    rw [if_pos rfl, show L - 1 + 1 = L from by omega, Nat.mod_self]
  · rw [if_neg h, show k - 1 + 1 = k from by omega, Nat.mod_eq_of_lt hk]
theorem pv_all {cs : List Cn} {ls : List Int} (h : ∀ k, k < ls.length → joinB (atL cs ls (pv ls.length k)) (atL cs ls k) = true) : ∀ k, k < ls.length → joinB (atL cs ls k) (atL cs ls ((k + 1) % ls.length)) = true := by
  intro k hk
  by_cases e : k + 1 = ls.length
  · rw [e, Nat.mod_self]
    have := h 0 (by omega)
    unfold pv at this
    rw [if_pos rfl, show ls.length - 1 = k from by omega] at this
    exact this
  · rw [Nat.mod_eq_of_lt (by omega)]
    have := h (k + 1) (by omega)
    unfold pv at this
    rw [if_neg (by omega), show k + 1 - 1 = k from by omega] at this
    exact this

theorem three_set {w : World} {B : Nat} {u0 u1 u2 : Value} (h0 : w.cell? ⟨B, 0, none⟩ = some u0) (h1 : w.cell? ⟨B, 1, none⟩ = some u1) (h2 : w.cell? ⟨B, 2, none⟩ = some u2) (v0 v1 v2 : Value) (nq : Nat) :
    ((((w.drewN nq).setCell ⟨B, 0, none⟩ v0).setCell ⟨B, 1, none⟩ v1).setCell ⟨B, 2, none⟩ v2).cell? ⟨B, 0, none⟩ = some v0 ∧
    ((((w.drewN nq).setCell ⟨B, 0, none⟩ v0).setCell ⟨B, 1, none⟩ v1).setCell ⟨B, 2, none⟩ v2).cell? ⟨B, 1, none⟩ = some v1 ∧
    ((((w.drewN nq).setCell ⟨B, 0, none⟩ v0).setCell ⟨B, 1, none⟩ v1).setCell ⟨B, 2, none⟩ v2).cell? ⟨B, 2, none⟩ = some v2 := by
  have g0 : (w.drewN nq).cell? ⟨B, 0, none⟩ = some u0 := h0
  have g1 : (w.drewN nq).cell? ⟨B, 1, none⟩ = some u1 := h1
  have g2 : (w.drewN nq).cell? ⟨B, 2, none⟩ = some u2 := h2
  refine ⟨?_, ?_, ?_⟩
  · rw [World.cell?_setCell_other _ _ _ _ (by simp), World.cell?_setCell_other _ _ _ _ (by simp), World.cell?_setCell_same _ _ _ g0]
  · rw [World.cell?_setCell_other _ _ _ _ (by simp), World.cell?_setCell_same _ _ _ (u := u1) (by rw [World.cell?_setCell_other _ _ _ _ (by simp)]; exact g1)]
  · rw [World.cell?_setCell_same _ _ _ (u := u2) (by rw [World.cell?_setCell_other _ _ _ _ (by simp), World.cell?_setCell_other _ _ _ _ (by simp)]; exact g2)]

set_option maxRecDepth 10000 in
set_option maxHeartbeats 4000000 in
theorem implCycle_any (n : Int) (v2 v3 : Value) (cs : List Cn) (ls : List Int) (w : World) (hn : ConsAt w v2 cs) (hk : IntsAt w v3 ls) (hlen : ls.length ≤ 1048576) :
    Calls Try.prog 19 #[.int .i64 n, v2, v3] w fun e w' => e = .returned (.bool (cycB n cs ls)) ∧ Below w.heap.size w w' := by
  have HN := hide hn
  obtain ⟨a1, cap1, rfl, hlc1, hcm1, hc1⟩ := hk
  obtain ⟨a2, cap2, rfl, hlc2, hcm2, hc2⟩ := hn
  unfold maxLen at hcm1 hcm2
  have H1 := hide hc1
  have H2 := hide hc2
  clear hc1 hc2
  cases hok : consB n cs
  · have HM := hide (cycB_cons (ls := ls) hok)
    go_enter Try.func19, Try.ntmps19
    go_wp2_with (go_at_call 24; refine (implConsOk_any _ _ cs _ HN.out).mono ?_; rintro e w1 ⟨rfl, hb1⟩; rw [hok])
    go_ret
    exact ⟨ret_bool HM.out.symm, hb1⟩
  by_cases hemp : ls.length = 0
  · have HM := hide (cycB_nil (n := n) (cs := cs) hemp)
    have HOK := hide hok
    clear hok
    have q0 : ((ls.length : Int) == 0) = true := by simp [hemp]
    go_enter Try.func19, Try.ntmps19
    go_wp2_with (go_at_call 24; refine (implConsOk_any _ _ cs _ HN.out).mono ?_; rintro e w1 ⟨rfl, hb1⟩; rw [HOK.out])
    go_ret
    exact ⟨ret_bool HM.out.symm, hb1⟩
  · obtain ⟨⟨_, g2, g3⟩, g4⟩ := consB_yes hok
    have HOK := hide hok
    have HS := hide g4
    have q0 : ((ls.length : Int) == 0) = false := by rw [beq_eq_false_iff_ne]; omega
    have hpos : 0 < ls.length := by omega
    clear hok g4 hemp
    go_enter Try.func19, Try.ntmps19
    go_wp2_with (go_at_call 24; refine (implConsOk_any _ _ cs _ HN.out).mono ?_; rintro e w1 ⟨rfl, hb1⟩; rw [HOK.out])
    go_loopw [24] (fun i wr => ∃ (k : Nat), k ≤ ls.length ∧ i = .int .i64 k ∧ Hid (∀ j (h : j < ls.length), j < k → 0 ≤ ls[j] ∧ ls[j] < cs.length) ∧ w1 = wr) (fun i _ => ls.length - (intOf i).toNat)
    case atStart => exact ⟨0, by omega, rfl, fun j _ h => by omega, rfl⟩
    case round =>
      obtain ⟨k, hk, rfl, HA, rfl⟩ := hrel
      by_cases hlt : k < ls.length
      · obtain ⟨b, off, rfl, hc⟩ := H1.out (by omega)
        have c1 := keep_cell hb1 (hc k hlt)
        have hlt' : (k : Int) < ls.length := by omega
        clear hc
        by_cases hneg : ls[k] < 0 ∨ cs.length ≤ ls[k]
        · have HM := hide (cycB_in (n := n) (inB_not k hlt hneg))
          generalize ls[k] = q at *
          go_wp2_with fail
          all_goals first | (exfalso; omega) | (go_ret; exact ⟨ret_bool HM.out.symm, hb1⟩)
        · have HA2 : Hid (∀ j (h : j < ls.length), j < k + 1 → 0 ≤ ls[j] ∧ ls[j] < cs.length) := by
            intro j h hj
            by_cases e : j = k
            · subst e; omega
            · exact HA.out j h (by omega)
          generalize ls[k] = q at *
          have hq1 : 0 ≤ q := by omega
          have hq2 : q < cs.length := by omega
          clear hneg
          go_wp2_with fail
          go_roundw
          case rel => exact ⟨k + 1, by omega, by go_num, HA2, by first | rfl | trivial⟩
          case measure => simp [intOf]; omega
      · have HA2 : Hid (∀ j (h : j < ls.length), 0 ≤ ls[j] ∧ ls[j] < cs.length) := fun j h => HA.out j h (by omega)
        clear HA
        obtain ⟨b, off, rfl, hc⟩ := H1.out (by omega)
        obtain ⟨b2, off2, rfl, hcc⟩ := H2.out (by have := HA2.out 0 hpos; omega)
        obtain ⟨m, hm⟩ : ∃ m : Nat, ls.length = m + 1 := ⟨ls.length - 1, by omega⟩
        have hml : m < ls.length := by omega
        have hml' : (m : Int) < ls.length := by omega
        have hsub : (ls.length : Int) - 1 = (m : Int) := by omega
        have hwm : IntKind.i64.wrap (m : Int) = (m : Int) := by rw [IntKind.wrap_i64]; omega
        have c1 := keep_cell hb1 (hc m hml)
        obtain ⟨j1, hj1⟩ : ∃ j : Nat, ls[m] = j := ⟨ls[m].toNat, by have := HA2.out m hml; omega⟩
        have hl1 : j1 < cs.length := by have := HA2.out m hml; omega
        have hl1' : (j1 : Int) < cs.length := by omega
        have E1 : Hid (cs[j1] = atL cs ls (pv ls.length 0)) := by
          show _ = _
          rw [show pv ls.length 0 = m from by unfold pv; rw [if_pos rfl]; omega]
          exact (atL_eq hml hj1 hl1).symm
        rw [hj1] at c1
        obtain ⟨d1, d2, d3⟩ := (hcc j1 hl1).keep hb1
        have HC := hide hc
        have HCC := hide hcc
        clear hj1 hc hcc H1 H2 hm
        generalize cs[j1] = p1 at *
        have hD : ∃ pa pn pb, p1 = ⟨pa, pn, pb⟩ := ⟨_, _, _, rfl⟩
        obtain ⟨pa, pn, pb, rfl⟩ := hD
        simp only at d1 d2 d3
        go_wp2_with fail
        go_loopw [9, 48] (fun s i wr => ∃ (k : Nat) (c : Cn), k ≤ ls.length ∧ i = .int .i64 k ∧ s = .int .i64 (sumTo cs ls k) ∧ Hid (c = atL cs ls (pv ls.length k)) ∧ wr.cell? ⟨w1.heap.size, 0, none⟩ = some (.int .i64 c.a) ∧ wr.cell? ⟨w1.heap.size, 1, none⟩ = some (.int .i64 c.n) ∧ wr.cell? ⟨w1.heap.size, 2, none⟩ = some (.int .i64 c.b) ∧ Hid (∀ j, wr.frozen? ⟨w1.heap.size, j, none⟩ = false) ∧ Hid (∀ j, j < k → joinB (atL cs ls (pv ls.length j)) (atL cs ls j) = true) ∧ Below w.heap.size w wr) (fun _ i _ => ls.length - (intOf i).toNat)
        case atStart => exact ⟨0, ⟨pa, pn, pb⟩, by omega, rfl, rfl, E1, by simp [go_sem], by simp [go_sem], by simp [go_sem], fun j => by simp [go_sem], fun j h => by omega, bel_alloc hb1 _⟩
        case round =>
          obtain ⟨k, ⟨la, ln, lb⟩, hk, rfl, rfl, HL, t1, t2, t3, HFZ, HA, hbel⟩ := hrel
          simp only at t1 t2 t3
          obtain ⟨z1, z2⟩ := sumTo_le HOK.out HA2.out k (by omega)
          clear d1 d2 d3 c1 hsub hwm E1
          by_cases hlt : k < ls.length
          · have c1 := keep_cell hbel (HC.out k hlt)
            have hlt' : (k : Int) < ls.length := by omega
            obtain ⟨j2, hj2⟩ : ∃ j : Nat, ls[k] = j := ⟨ls[k].toNat, by have := HA2.out k hlt; omega⟩
            have hl2 : j2 < cs.length := by have := HA2.out k hlt; omega
            have hl2' : (j2 : Int) < cs.length := by omega
            have E2 := atL_eq hlt hj2 hl2
            rw [hj2] at c1
            obtain ⟨f1, f2, f3⟩ := (HCC.out j2 hl2).keep hbel
            obtain ⟨_, _, _, _, s5, s6⟩ := HS.out j2 hl2
            have HSM : Hid (sumTo cs ls (k + 1) = sumTo cs ls k + cs[j2].n) := by show _ + _ = _; rw [E2]
            have HJ : Hid (joinB (atL cs ls (pv ls.length k)) (atL cs ls k) = joinB ⟨la, ln, lb⟩ cs[j2]) := by show _ = _; rw [← HL.out, E2]
            have HL2 : Hid (cs[j2] = atL cs ls (pv ls.length (k + 1))) := by
              show _ = _
              rw [show pv ls.length (k + 1) = k from by unfold pv; rw [if_neg (by omega)]; omega, E2]
            have hS1 : -1048576000 ≤ sumTo cs ls k := by omega
            have hS2 : sumTo cs ls k ≤ 1048576000 := by omega
            clear E2 hj2 z1 z2 HL
            generalize hSS : sumTo cs ls k = S at *
            generalize hp2 : cs[j2] = p2 at *
            obtain ⟨qa, qn, qb⟩ := p2
            simp only at f1 f2 f3 s5 s6 HSM
            have l0 : w1.heap.size < wr.heap.size := lt_cell t1
            have z0 := HFZ.out 0
            have z1 := HFZ.out 1
            have z2 := HFZ.out 2
            have hw1 : w.heap.size ≤ w1.heap.size := hb1.size
            have HT := hide (three_set t1 t2 t3 (.int .i64 qa) (.int .i64 qn) (.int .i64 qb))
            by_cases hjoin : joinB ⟨la, ln, lb⟩ ⟨qa, qn, qb⟩ = true
            · have HA3 : Hid (∀ j, j < k + 1 → joinB (atL cs ls (pv ls.length j)) (atL cs ls j) = true) := by
                intro j hjk
                by_cases e : j = k
                · subst e; rw [HJ.out, hjoin]
                · exact HA.out j (by omega)
              have HFZ2 : Hid (∀ nq j, ((((wr.drewN nq).setCell ⟨w1.heap.size, 0, none⟩ (.int .i64 qa)).setCell ⟨w1.heap.size, 1, none⟩ (.int .i64 qn)).setCell ⟨w1.heap.size, 2, none⟩ (.int .i64 qb)).frozen? ⟨w1.heap.size, j, none⟩ = false) := by
                intro nq j
                rw [World.frozen?_setCell, World.frozen?_setCell, World.frozen?_setCell]
                exact HFZ.out j
              have HB : Hid (∀ nq, Below w.heap.size w ((((wr.drewN nq).setCell ⟨w1.heap.size, 0, none⟩ (.int .i64 qa)).setCell ⟨w1.heap.size, 1, none⟩ (.int .i64 qn)).setCell ⟨w1.heap.size, 2, none⟩ (.int .i64 qb))) := fun nq => (((below_drewN hbel nq).setCell (p := ⟨_, _, _⟩) hw1 _).setCell (p := ⟨_, _, _⟩) hw1 _).setCell (p := ⟨_, _, _⟩) hw1 _
              clear HA HJ HFZ
              by_cases q1 : lb = -1
              · have e1 : (lb != -1) = false := by simp [q1]
                clear q1 hjoin
                go_wp2_with fail
                go_quiet (fail)
                go_wp2_with fail
                go_roundw
                case rel => exact ⟨k + 1, ⟨qa, qn, qb⟩, by omega, by go_num, by rw [HSM.out], HL2, (HT.out _).1, (HT.out _).2.1, (HT.out _).2.2, HFZ2.out _, HA3, HB.out _⟩
                case measure => simp [intOf]; omega
              · have e1 : (lb != -1) = true := by simp [q1]
                have q2 : lb = qa := by simpa [joinB, q1] using hjoin
                have e2 : (lb != qa) = false := by simp [q2]
                clear q1 q2 hjoin
                go_wp2_with fail
                go_quiet (fail)
                go_wp2_with fail
                go_roundw
                case rel => exact ⟨k + 1, ⟨qa, qn, qb⟩, by omega, by go_num, by rw [HSM.out], HL2, (HT.out _).1, (HT.out _).2.1, (HT.out _).2.2, HFZ2.out _, HA3, HB.out _⟩
                case measure => simp [intOf]; omega
            · have HM : Hid (cycB n cs ls = false) := by
                have h := pv_next hlt
                refine cycB_join (pv ls.length k) (pv_lt hpos (by omega)) ?_
                rw [h, HJ.out]
                simpa using hjoin
              have q1 : ¬ lb = -1 := by intro e; exact hjoin (by simp [joinB, e])
              have q2 : ¬ lb = qa := by intro e; exact hjoin (by simp [joinB, e])
              have e1 : (lb != -1) = true := by simp [q1]
              have e2 : (lb != qa) = true := by simp [q2]
              clear q1 q2 hjoin
              go_wp2_with fail
              go_quiet (fail)
              go_wp2_with fail
              go_ret
              exact ⟨ret_bool HM.out.symm, below_drewN hbel _⟩
          · have HM : Hid (cycB n cs ls = decide (0 < sumTo cs ls ls.length)) := cycB_all HOK.out hpos (inB_all HA2.out) (pv_all (fun j hj => HA.out j (by omega)))
            have hke : k = ls.length := by omega
            subst hke
            go_wp2_with fail
            go_ret
            exact ⟨ret_bool HM.out.symm, hbel⟩
end Go.Proofs.Yteedainidoldoaa
