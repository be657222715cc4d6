/- What the specification's l1Leq and LevelLeq answer: whether one level's number is at most another's at every row that is tried. -/
import Derived.Test.YtgomimhelgjddaaGreatDec
import Derived.BigQuiet
namespace Go.Proofs.YtgomimhelgjddaaGreat
open Go.ChangeShapes Go.WideShapes Go.ChangeAt Go.RowKit

def triesLeq (t1 t2 : Tr) (all : List ByteArray) : Bool := (tries all.length).all (fun vs => decide (t1.weigh (valAt all vs) ≤ t2.weigh (valAt all vs)))

set_option maxRecDepth 10000 in
set_option maxHeartbeats 4000000 in
theorem l1Leq_any (t1 t2 : Tr) (g1 g2 : Nat) (w : World) (h1 : TreeAt w.heap.size w g1 t1) (h2 : TreeAt w.heap.size w g2 t2) (o1 : t1.ok) (o2 : t2.ok) (c1 : t1.cnt ≤ 64) (c2 : t2.cnt ≤ 64) (hn : (t2.names (t1.names [])).length ≤ 12) :
    Calls Tryz.prog 135 #[.pointer (some ⟨g1, 0, none⟩), .pointer (some ⟨g2, 0, none⟩)] w fun e w' => e = .returned (.bool (triesLeq t1 t2 (t2.names (t1.names [])))) ∧ Below w.heap.size w w' := by
  have HT1 := hide h1
  have HT2 := hide h2
  have HO1 := hide o1
  have HO2 := hide o2
  have HP1 : Hid (∀ x ∈ t1.params, hasB (t2.names (t1.names [])) x = true) := fun x hx => names_has t2 _ x (names_params t1 [] x hx)
  have HP2 : Hid (∀ x ∈ t2.params, hasB (t2.names (t1.names [])) x = true) := names_params t2 _
  have hl1 := Tr.names_len t1 []
  have hl2 := Tr.names_len t2 (t1.names [])
  simp at hl1
  have hst := World.ownsRow_lit (base := w.heap.size) (e := 9) (size := 1) w #[] 0 (Nat.le_refl _) (by unfold maxLen; omega) rfl
  have HST := hide hst
  clear hst h1 h2 o1 o2
  go_enter Tryz.func135, Tryz.ntmps135
  go_wp2_with fail
  refine (l1Names_any t1 g1 _ _ [] w.heap.size (HT1.out.keep (bel_alloc (Below.refl _ _) _)) HST.out (by simp) (by simp; omega)).mono ?_
  rintro e w1 ⟨vn1, rfl, hown1, hb1⟩
  have hbel1 : Below w.heap.size w w1 := (bel_alloc (Below.refl w.heap.size w) _).trans hb1
  have HOWN1 := hide hown1
  obtain ⟨na1, nc1, rfl⟩ := row_form hown1
  clear hown1 hb1
  go_wp2_with fail
  refine (l1Names_any t2 g2 _ _ (t1.names []) w.heap.size (HT2.out.keep hbel1) HOWN1.out hbel1.size (by omega)).mono ?_
  rintro e w2 ⟨vn2, rfl, hown2, hb2⟩
  have hstr2 := row_strs hown2
  have hbel2 : Below w.heap.size w w2 := hbel1.trans hb2
  clear hown2 hb2 hbel1 HOWN1 HST
  obtain ⟨all, hall⟩ : ∃ all, t2.names (t1.names []) = all := ⟨_, rfl⟩
  have HALL := hide hall
  rw [hall] at hstr2 hn HP1 HP2
  clear hall hl1 hl2
  have HS2 := hide hstr2
  obtain ⟨na, nc, rfl, _, _, _⟩ := hstr2
  go_wp2_with fail
  refine (l1Tries_any all.length hn _).mono ?_
  rintro e w3 ⟨rv, rfl, hrows, hb3⟩
  have hbel3 := bel_trans hbel2 hb3
  have HS3 := hide (HS2.out.keep hb3)
  have HT13 := hide (HT1.out.keep hbel3)
  have HT23 := hide (HT2.out.keep hbel3)
  have HROWS : Hid (∀ vs ∈ tries all.length, vs.length = all.length ∧ ∀ x ∈ vs, 0 ≤ x ∧ x ≤ 1000) := tries_rows
  have hlen : (tries all.length).length ≤ 53248 := by
    have h1 := triesOf_len all.length (2 ^ all.length)
    have h2 := pow_le all.length (by omega)
    have h3 : 2 ^ all.length * (all.length + 1) ≤ 4096 * 13 := Nat.mul_le_mul h2 (by omega)
    show (triesOf _ _).length ≤ _
    omega
  have HRES : Hid (triesLeq t1 t2 (t2.names (t1.names [])) = (tries all.length).all (fun vs => decide (t1.weigh (valAt all vs) ≤ t2.weigh (valAt all vs)))) := by show _ = _; rw [HALL.out]; rfl
  clear hb3 hbel2 HS2 HT1 HT2 HALL
  generalize tries all.length = rows at *
  obtain ⟨ra, rc, rfl, hrl, hrm, hrc⟩ := hrows
  have HRC := hide hrc
  clear hrc
  unfold maxLen at hrm
  go_wp2_with fail
  go_loopw [7] (fun i wr => ∃ (k m : Nat), k ≤ rows.length ∧ i = .int .i64 k ∧ Hid (∀ j (h : j < rows.length), j < k → t1.weigh (valAt all rows[j]) ≤ t2.weigh (valAt all rows[j])) ∧ wr = w3.drewN m) (fun i _ => rows.length - (intOf i).toNat)
  case atStart => exact ⟨0, 0, by omega, rfl, fun j _ h => by omega, rfl⟩
  case round =>
    obtain ⟨k, m, hk, rfl, HA, hwr⟩ := hrel
    have HWR := hide hwr
    have HBR : Hid (Below w3.heap.size w3 wr) := by show Below _ _ _; rw [hwr]; exact below_drewN (Below.refl _ _) m
    clear hwr
    by_cases hlt : k < rows.length
    · have hlt' : (k : Int) < rows.length := by omega
      obtain ⟨b, rfl, hcc⟩ := HRC.out (by omega)
      obtain ⟨u, hu0, htag⟩ := hcc k hlt
      have hu := keep_cell HBR.out hu0
      have hints := htag.ints.keep HBR.out
      clear hu0
      have hrow := HROWS.out _ (List.getElem_mem hlt)
      have HV : Hid (∀ n, Vals (wr.drewN n) (.slice na all.length nc) u all rows[k]) := fun n => ⟨(HS3.out.keep HBR.out).keep (below_drewN (Below.refl _ _) n), hints.keep (below_drewN (Below.refl _ _) n), hrow.1.symm, fun x hx => by have := hrow.2 x hx; omega⟩
      have HC1 : Hid (∀ n, Calls Tryz.prog 156 #[.pointer (some ⟨g1, 0, none⟩), .slice na all.length nc, u] (wr.drewN n) fun e w' => e = .returned (.int .i64 (t1.weigh (valAt all rows[k]))) ∧ w' = wr.drewN n) := fun n => l1Weigh_any t1 g1 w.heap.size _ _ _ all rows[k] (HT13.out.keep (w' := wr.drewN n) (below_drewN (HBR.out.mono hbel3.size) n)) HO1.out (HV.out n) HP1.out (by omega)
      have HC2 : Hid (∀ n, Calls Tryz.prog 156 #[.pointer (some ⟨g2, 0, none⟩), .slice na all.length nc, u] (wr.drewN n) fun e w' => e = .returned (.int .i64 (t2.weigh (valAt all rows[k]))) ∧ w' = wr.drewN n) := fun n => l1Weigh_any t2 g2 w.heap.size _ _ _ all rows[k] (HT23.out.keep (w' := wr.drewN n) (below_drewN (HBR.out.mono hbel3.size) n)) HO2.out (HV.out n) HP2.out (by omega)
      obtain ⟨ua, uc, rfl, _, _, _⟩ := hints
      clear hcc htag hrow HV
      by_cases hq : t1.weigh (valAt all rows[k]) ≤ t2.weigh (valAt all rows[k])
      · have HA2 : Hid (∀ j (h : j < rows.length), j < k + 1 → t1.weigh (valAt all rows[j]) ≤ t2.weigh (valAt all rows[j])) := by
          intro j h hj
          by_cases e : j = k
          · subst e; exact hq
          · exact HA.out j h (by omega)
        generalize t1.weigh (valAt all rows[k]) = x at *
        generalize t2.weigh (valAt all rows[k]) = y at *
        have hd : decide (y < x) = false := by simp; omega
        clear HA
        go_wp2_with fail
        go_quiet (first
          | (go_at_call_of 156 (Value.pointer (some ⟨g1, 0, none⟩)); refine Calls.quiet_of_same (HC1.out _))
          | (go_at_call_of 156 (Value.pointer (some ⟨g2, 0, none⟩)); refine Calls.quiet_of_same (HC2.out _)))
        go_wp2_with fail
        go_roundw
        case rel => exact ⟨k + 1, m + nq, by omega, by go_num, HA2, by rw [HWR.out, World.drewN_drewN]⟩
        case measure => simp [intOf]; omega
      · have HF : Hid (rows.all (fun vs => decide (t1.weigh (valAt all vs) ≤ t2.weigh (valAt all vs))) = false) := by
          show _ = false
          rw [List.all_eq_false]
          exact ⟨rows[k], List.getElem_mem hlt, by simpa using hq⟩
        generalize t1.weigh (valAt all rows[k]) = x at *
        generalize t2.weigh (valAt all rows[k]) = y at *
        have hd : decide (y < x) = true := by simp; omega
        clear HA
        go_wp2_with fail
        go_quiet (first
          | (go_at_call_of 156 (Value.pointer (some ⟨g1, 0, none⟩)); refine Calls.quiet_of_same (HC1.out _))
          | (go_at_call_of 156 (Value.pointer (some ⟨g2, 0, none⟩)); refine Calls.quiet_of_same (HC2.out _)))
        go_wp2_with fail
        go_ret
        exact ⟨ret_bool (by rw [HRES.out, HF.out]), below_drewN (bel_trans hbel3 HBR.out) _⟩
    · have HF : Hid (rows.all (fun vs => decide (t1.weigh (valAt all vs) ≤ t2.weigh (valAt all vs))) = true) := by
        show _ = true
        rw [List.all_eq_true]
        intro vs hvs
        obtain ⟨j, hj, rfl⟩ := List.getElem_of_mem hvs
        simpa using HA.out j hj (by omega)
      go_wp2_with fail
      go_ret
      exact ⟨ret_bool (by rw [HRES.out, HF.out]), bel_trans hbel3 HBR.out⟩
end Go.Proofs.YtgomimhelgjddaaGreat
