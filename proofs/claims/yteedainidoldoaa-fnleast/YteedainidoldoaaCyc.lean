/- What a cycle is, plainly; and what the specification's Cycle answers: just that. -/
import Derived.Test.YteedainidoldoaaMeets
namespace Go.Proofs.Yteedainidoldoaa
open Go.ChangeShapes Go.WideShapes Go.ChangeAt Go.RowKit

def joinB (c d : Cn) : Bool := decide (c.b = -1 ∨ c.b = d.a)
def inB (cs : List Cn) (ls : List Int) : Bool := ls.all (fun p => decide (0 ≤ p ∧ p < cs.length))
/-- The constraint at place i of the list. -/
def atL (cs : List Cn) (ls : List Int) (i : Nat) : Cn := cs.getD (ls.getD i 0).toNat default
def sumTo (cs : List Cn) (ls : List Int) : Nat → Int
  | 0 => 0
  | k + 1 => sumTo cs ls k + (atL cs ls k).n
def cycB (n : Int) (cs : List Cn) (ls : List Int) : Bool :=
  consB n cs && decide (0 < ls.length) && inB cs ls && (List.range ls.length).all (fun i => joinB (atL cs ls i) (atL cs ls ((i + 1) % ls.length))) && decide (0 < sumTo cs ls ls.length)

theorem cycB_cons {n : Int} {cs : List Cn} {ls : List Int} (h : consB n cs = false) : cycB n cs ls = false := by simp [cycB, h]
theorem cycB_nil {n : Int} {cs : List Cn} {ls : List Int} (h : ls.length = 0) : cycB n cs ls = false := by simp [cycB, h]
theorem inB_not {cs : List Cn} {ls : List Int} (k : Nat) (hk : k < ls.length) (h : ls[k] < 0 ∨ cs.length ≤ ls[k]) : inB cs ls = false := by
  unfold inB
  rw [List.all_eq_false]
  exact ⟨ls[k], by simp, by simp; omega⟩
theorem inB_all {cs : List Cn} {ls : List Int} (h : ∀ j (h : j < ls.length), 0 ≤ ls[j] ∧ ls[j] < cs.length) : inB cs ls = true := by
  unfold inB
  rw [List.all_eq_true]
  intro x hx
  obtain ⟨j, hj, rfl⟩ := List.getElem_of_mem hx
  simpa using h j hj
theorem cycB_in {n : Int} {cs : List Cn} {ls : List Int} (h : inB cs ls = false) : cycB n cs ls = false := by simp [cycB, h]
theorem cycB_join {n : Int} {cs : List Cn} {ls : List Int} (k : Nat) (hk : k < ls.length) (h : joinB (atL cs ls k) (atL cs ls ((k + 1) % ls.length)) = false) : cycB n cs ls = false := by
  unfold cycB
  rw [Bool.and_eq_false_iff]; left
  rw [Bool.and_eq_false_iff]; right
  rw [List.all_eq_false]
  exact ⟨k, by simpa using hk, by simp [h]⟩
theorem cycB_all {n : Int} {cs : List Cn} {ls : List Int} (h1 : consB n cs = true) (h2 : 0 < ls.length) (h3 : inB cs ls = true) (h4 : ∀ k, k < ls.length → joinB (atL cs ls k) (atL cs ls ((k + 1) % ls.length)) = true) : cycB n cs ls = decide (0 < sumTo cs ls ls.length) := by
  unfold cycB
  have : (List.range ls.length).all (fun i => joinB (atL cs ls i) (atL cs ls ((i + 1) % ls.length))) = true := by
    rw [List.all_eq_true]
    intro x hx
    exact h4 x (by simpa using hx)
  rw [h1, h3, this, decide_eq_true h2]
  simp
theorem atL_eq {cs : List Cn} {ls : List Int} {i j : Nat} (hi : i < ls.length) (h : ls[i] = (j : Int)) (hj : j < cs.length) : atL cs ls i = cs[j] := by
  unfold atL
  have e : ls.getD i 0 = (j : Int) := by rw [List.getD_eq_getElem?_getD, List.getElem?_eq_getElem hi, Option.getD_some, h]
  rw [e, Int.toNat_natCast]
  rw [List.getD_eq_getElem?_getD, List.getElem?_eq_getElem hj, Option.getD_some]
theorem sumTo_le {n : Int} {cs : List Cn} {ls : List Int} (h1 : consB n cs = true) (h3 : ∀ j (h : j < ls.length), 0 ≤ ls[j] ∧ ls[j] < cs.length) : ∀ k, k ≤ ls.length → -(1000 * (k : Int)) ≤ sumTo cs ls k ∧ sumTo cs ls k ≤ 1000 * k
  | 0, _ => by simp [sumTo]
  | k + 1, hk => by
    have ih := sumTo_le h1 h3 k (by omega)
    obtain ⟨q1, q2⟩ := h3 k (by omega)
    have e := atL_eq (cs := cs) (ls := ls) (i := k) (j := ls[k].toNat) (by omega) (by omega) (by omega)
    have := (consB_yes h1).2 ls[k].toNat (by omega)
    simp only [sumTo]
    rw [e]
    omega

set_option maxHeartbeats 1000000 in
theorem l2Joins_any (c d : Cn) (w : World) :
    Calls Try.prog 32 #[.agg #[.int .i64 c.a, .int .i64 c.n, .int .i64 c.b], .agg #[.int .i64 d.a, .int .i64 d.n, .int .i64 d.b]] w fun e w' => e = .returned (.bool (joinB c d)) ∧ Below w.heap.size w w' := by
  by_cases h1 : c.b = -1
  · have HJ : Hid (joinB c d = true) := by show _ = _; simp [joinB, h1]
    have e1 : (c.b == -1) = true := beq_iff_eq.2 h1
    clear h1
    go_enter Try.func32, Try.ntmps32
    go_wp2_with fail
    go_ret
    exact ⟨ret_bool HJ.out.symm, ((Below.refl w.heap.size w).alloc (Nat.le_refl _) _).alloc (by simp) _⟩
  · have e1 : (c.b == -1) = false := beq_eq_false_iff_ne.2 h1
    by_cases h2 : c.b = d.a
    · have HJ : Hid (joinB c d = true) := by show _ = _; simp [joinB, h2]
      have e2 : (c.b == d.a) = true := beq_iff_eq.2 h2
      clear h1 h2
      go_enter Try.func32, Try.ntmps32
      go_wp2_with fail
      go_ret
      exact ⟨ret_bool HJ.out.symm, ((Below.refl w.heap.size w).alloc (Nat.le_refl _) _).alloc (by simp) _⟩
    · have HJ : Hid (joinB c d = false) := by show _ = _; simp [joinB, h1, h2]
      have e2 : (c.b == d.a) = false := beq_eq_false_iff_ne.2 h2
      clear h1 h2
      go_enter Try.func32, Try.ntmps32
      go_wp2_with fail
      go_ret
      exact ⟨ret_bool HJ.out.symm, ((Below.refl w.heap.size w).alloc (Nat.le_refl _) _).alloc (by simp) _⟩

set_option maxRecDepth 10000 in
set_option maxHeartbeats 4000000 in
theorem specCycle_any (n : Int) (v2 v3 : Value) (cs : List Cn) (ls : List Int) (w : World) (hn : ConsAt w v2 cs) (hk : IntsAt w v3 ls) (hlen : ls.length ≤ 1048576) :
    Calls Try.prog 20 #[.int .i64 n, v2, v3] w fun e w' => e = .returned (.bool (cycB n cs ls)) ∧ Below w.heap.size w w' := by
  have HN := hide hn
  obtain ⟨a1, cap1, rfl, hlc1, hcm1, hc1⟩ := hk
  obtain ⟨a2, cap2, rfl, hlc2, hcm2, hc2⟩ := hn
  unfold maxLen at hcm1 hcm2
  have H1 := hide hc1
  have H2 := hide hc2
  clear hc1 hc2
  cases hok : consB n cs
  · have HM := hide (cycB_cons (ls := ls) hok)
    go_enter Try.func20, Try.ntmps20
    go_wp2_with (go_at_call 18; refine (specConsOk_any _ _ cs _ HN.out).mono ?_; rintro e w1 ⟨rfl, hb1⟩; rw [hok])
    go_ret
    exact ⟨ret_bool HM.out.symm, hb1⟩
  by_cases hemp : ls.length = 0
  · have HM := hide (cycB_nil (n := n) (cs := cs) hemp)
    have HOK := hide hok
    clear hok
    have q0 : ((ls.length : Int) == 0) = true := by simp [hemp]
    go_enter Try.func20, Try.ntmps20
    go_wp2_with (go_at_call 18; refine (specConsOk_any _ _ cs _ HN.out).mono ?_; rintro e w1 ⟨rfl, hb1⟩; rw [HOK.out])
    go_ret
    exact ⟨ret_bool HM.out.symm, hb1⟩
  · obtain ⟨⟨_, g2, g3⟩, g4⟩ := consB_yes hok
    have HOK := hide hok
    have HS := hide g4
    have q0 : ((ls.length : Int) == 0) = false := by rw [beq_eq_false_iff_ne]; omega
    have hpos : 0 < ls.length := by omega
    clear hok g4 hemp
    go_enter Try.func20, Try.ntmps20
    go_wp2_with (go_at_call 18; refine (specConsOk_any _ _ cs _ HN.out).mono ?_; rintro e w1 ⟨rfl, hb1⟩; rw [HOK.out])
    go_loopw [8] (fun i wr => ∃ (k : Nat), k ≤ ls.length ∧ i = .int .i64 k ∧ Hid (∀ j (h : j < ls.length), j < k → 0 ≤ ls[j] ∧ ls[j] < cs.length) ∧ w1 = wr) (fun i _ => ls.length - (intOf i).toNat)
    case atStart => exact ⟨0, by omega, rfl, fun j _ h => by omega, rfl⟩
    case round =>
      obtain ⟨k, hk, rfl, HA, rfl⟩ := hrel
      by_cases hlt : k < ls.length
      · obtain ⟨b, off, rfl, hc⟩ := H1.out (by omega)
        have c1 := keep_cell hb1 (hc k hlt)
        have hlt' : (k : Int) < ls.length := by omega
        clear hc
        by_cases hneg : ls[k] < 0 ∨ cs.length ≤ ls[k]
        · have HM := hide (cycB_in (n := n) (inB_not k hlt hneg))
          generalize ls[k] = q at *
          go_wp2_with fail
          all_goals first | (exfalso; omega) | (go_ret; exact ⟨ret_bool HM.out.symm, hb1⟩)
        · have HA2 : Hid (∀ j (h : j < ls.length), j < k + 1 → 0 ≤ ls[j] ∧ ls[j] < cs.length) := by
            intro j h hj
            by_cases e : j = k
            · subst e; omega
            · exact HA.out j h (by omega)
          generalize ls[k] = q at *
          have hq1 : 0 ≤ q := by omega
          have hq2 : q < cs.length := by omega
          clear hneg
          go_wp2_with fail
          go_roundw
          case rel => exact ⟨k + 1, by omega, by go_num, HA2, by first | rfl | trivial⟩
          case measure => simp [intOf]; omega
      · have HA2 : Hid (∀ j (h : j < ls.length), 0 ≤ ls[j] ∧ ls[j] < cs.length) := fun j h => HA.out j h (by omega)
        clear HA
        go_wp2_with fail
        go_loopw [7, 9] (fun s i wr => ∃ (k : Nat), k ≤ ls.length ∧ i = .int .i64 k ∧ s = .int .i64 (sumTo cs ls k) ∧ Hid (∀ j, j < k → joinB (atL cs ls j) (atL cs ls ((j + 1) % ls.length)) = true) ∧ Below w.heap.size w wr) (fun _ i _ => ls.length - (intOf i).toNat)
        case atStart => exact ⟨0, by omega, rfl, rfl, fun j h => by omega, hb1⟩
        case round =>
          obtain ⟨k, hk, rfl, rfl, HA, hbel⟩ := hrel
          obtain ⟨z1, z2⟩ := sumTo_le HOK.out HA2.out k (by omega)
          by_cases hlt : k < ls.length
          · obtain ⟨b, off, rfl, hc⟩ := H1.out (by omega)
            obtain ⟨nx, hnx⟩ : ∃ nx : Nat, nx = (k + 1) % ls.length := ⟨_, rfl⟩
            have hnxl : nx < ls.length := by rw [hnx]; exact Nat.mod_lt _ hpos
            have hrem : Int.tmod ((k : Int) + 1) (ls.length : Int) = (nx : Int) := by rw [hnx]; exact (Int.ofNat_tmod (k + 1) ls.length).symm
            have hrem2 : ((k : Int) + 1) % (ls.length : Int) = (nx : Int) := by rw [hnx, Int.natCast_emod]; rfl
            have hrem3 : IntKind.i64.wrap ((k : Int) + 1) = (k : Int) + 1 := by rw [IntKind.wrap_i64]; omega
            have c1 := keep_cell hbel (hc k hlt)
            have c2 := keep_cell hbel (hc nx hnxl)
            have hlt' : (k : Int) < ls.length := by omega
            have hnx' : (nx : Int) < ls.length := by omega
            obtain ⟨j1, hj1⟩ : ∃ j : Nat, ls[k] = j := ⟨ls[k].toNat, by have := HA2.out k hlt; omega⟩
            obtain ⟨j2, hj2⟩ : ∃ j : Nat, ls[nx] = j := ⟨ls[nx].toNat, by have := HA2.out nx hnxl; omega⟩
            have hl1 : j1 < cs.length := by have := HA2.out k hlt; omega
            have hl2 : j2 < cs.length := by have := HA2.out nx hnxl; omega
            have hl1' : (j1 : Int) < cs.length := by omega
            have hl2' : (j2 : Int) < cs.length := by omega
            have E1 := atL_eq hlt hj1 hl1
            have E2 := atL_eq hnxl hj2 hl2
            rw [hj1] at c1
            rw [hj2] at c2
            obtain ⟨b2, off2, rfl, hcc⟩ := H2.out (by omega)
            obtain ⟨d1, d2, d3⟩ := (hcc j1 hl1).keep hbel
            obtain ⟨f1, f2, f3⟩ := (hcc j2 hl2).keep hbel
            obtain ⟨_, _, _, _, s5, s6⟩ := HS.out j1 hl1
            have HSM : Hid (sumTo cs ls (k + 1) = sumTo cs ls k + cs[j1].n) := by show _ + _ = _; rw [E1]
            have HJ : Hid (joinB (atL cs ls k) (atL cs ls ((k + 1) % ls.length)) = joinB cs[j1] cs[j2]) := by show _ = _; rw [← hnx, E1, E2]
            have hS1 : -1048576000 ≤ sumTo cs ls k := by omega
            have hS2 : sumTo cs ls k ≤ 1048576000 := by omega
            clear hc hcc E1 E2 hj1 hj2 hnx z1 z2
            generalize hSS : sumTo cs ls k = S at *
            have HC := hide (l2Joins_any cs[j1] cs[j2])
            generalize cs[j1] = p1 at *
            generalize cs[j2] = p2 at *
            obtain ⟨pa, pn, pb⟩ := p1
            obtain ⟨qa, qn, qb⟩ := p2
            simp only at d1 d2 d3 f1 f2 f3 s5 s6 HSM HC
            have hnl : ¬ ls = [] := by intro e; rw [e] at hpos; simp at hpos
            have hne : ¬ (ls.length : Int) = 0 := by omega
            have l1 := lt_cell c1
            have l2 := lt_cell d1
            cases hj : joinB ⟨pa, pn, pb⟩ ⟨qa, qn, qb⟩
            · have HM := hide (cycB_join (n := n) k hlt (by rw [HJ.out, hj]))
              go_wp2_with fail
              go_region_with (go_at_call 32; refine (HC.out _).mono ?_; rintro e w3 ⟨rfl, hb3⟩; rw [hj])
              all_goals
                go_wp2_with fail
                go_ret
                exact ⟨ret_bool HM.out.symm, (bel_alloc hbel _).drew.trans (hb3.mono (bel_alloc hbel _).size)⟩
            · have HA3 : Hid (∀ j, j < k + 1 → joinB (atL cs ls j) (atL cs ls ((j + 1) % ls.length)) = true) := by
                intro j hjk
                by_cases e : j = k
                · subst e; rw [HJ.out, hj]
                · exact HA.out j (by omega)
              clear HA HJ
              go_wp2_with fail
              go_region_with (go_at_call 32; refine (HC.out _).mono ?_; rintro e w3 ⟨rfl, hb3⟩; rw [hj])
              all_goals
                go_wp2_with fail
                go_roundw
                case rel => exact ⟨k + 1, by omega, by go_num, by rw [HSM.out], HA3, (bel_alloc hbel _).drew.trans (hb3.mono (bel_alloc hbel _).size)⟩
                case measure => simp [intOf]; omega
          · have HM : Hid (cycB n cs ls = decide (0 < sumTo cs ls ls.length)) := cycB_all HOK.out hpos (inB_all HA2.out) (fun j hj => HA.out j (by omega))
            have hke : k = ls.length := by omega
            subst hke
            go_wp2_with fail
            go_ret
            exact ⟨ret_bool HM.out.symm, hbel⟩
end Go.Proofs.Yteedainidoldoaa
