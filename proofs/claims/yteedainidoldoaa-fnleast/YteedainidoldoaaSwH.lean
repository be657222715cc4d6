/- The program's Solve: what it answers is what the specification's does. -/
import Derived.Test.YteedainidoldoaaSwG
import Derived.Test.YteedainidoldoaaSvV
namespace Go.Proofs.Yteedainidoldoaa
open Go.ChangeShapes Go.WideShapes Go.ChangeAt Go.RowKit

theorem okc_ct {m : Nat} {cs : List Cn} (hok : consB m cs = true) : Okc m (cs.map ctC) := by
  intro c hc
  obtain ⟨d, hd, rfl⟩ := List.mem_map.1 hc
  obtain ⟨q, hq, rfl⟩ := List.getElem_of_mem hd
  obtain ⟨s1, s2, s3, s4, s5, s6⟩ := (consB_yes hok).2 q hq
  exact ⟨by show (cs[q].a + 1).toNat ≤ m; omega, by show (cs[q].b + 1).toNat ≤ m; omega⟩
/-- Meeting as the specification tests it is being a solution. -/
theorem meetsB_sol {m : Nat} {cs : List Cn} {ks : List Int} (hl : ks.length = m) (hok : consB m cs = true) : meetsB ks cs = true ↔ Sol m (cs.map ctC) (fnV ks) := by
  have h4 := (consB_yes hok).2
  have hv : ∀ q (hq : q < cs.length), fnV ks (cs[q].a + 1).toNat = valOf ks cs[q].a ∧ fnV ks (cs[q].b + 1).toNat = valOf ks cs[q].b := fun q hq => ⟨fnV_val ks _ (h4 q hq).1, fnV_val ks _ (h4 q hq).2.2.1⟩
  constructor
  · intro h
    unfold meetsB at h
    rw [Bool.and_eq_true, Bool.and_eq_true, List.all_eq_true, List.all_eq_true] at h
    obtain ⟨⟨_, h2⟩, h3⟩ := h
    refine ⟨rfl, fun j hj => ?_, fun c hc => ?_⟩
    · unfold fnV
      by_cases e : j = 0
      · rw [if_pos e]; exact Int.le_refl 0
      · rw [if_neg e]
        have hj2 : j - 1 < ks.length := by omega
        have := h2 ks[j - 1] (List.getElem_mem hj2)
        simpa [List.getD, hj2] using this
    · obtain ⟨d, hd, rfl⟩ := List.mem_map.1 hc
      obtain ⟨q, hq, rfl⟩ := List.getElem_of_mem hd
      have h5 := h3 cs[q] (List.getElem_mem hq)
      unfold metB at h5
      have h5 := of_decide_eq_true h5
      unfold met ctC
      simp only
      rw [(hv q hq).1, (hv q hq).2]
      exact h5
  · intro h
    refine meetsB_all (by rw [hl]; exact hok) (fun j hj => ?_) (fun q hq => ?_)
    · have := h.pos (j + 1) (by omega)
      unfold fnV at this
      simpa [List.getD, hj] using this
    · have h5 := h.all (ctC cs[q]) (List.mem_map.2 ⟨_, List.getElem_mem hq, rfl⟩)
      unfold met ctC at h5
      simp only at h5
      rw [(hv q hq).1, (hv q hq).2] at h5
      unfold metB
      exact decide_eq_true h5
theorem cn_rng {m : Nat} {cs : List Cn} (hok : consB m cs = true) : ∀ c ∈ cs, -1 ≤ c.a ∧ -1 ≤ c.b ∧ c.b < (m : Int) := by
  intro c hc
  obtain ⟨q, hq, rfl⟩ := List.getElem_of_mem hc
  obtain ⟨s1, s2, s3, s4, s5, s6⟩ := (consB_yes hok).2 q hq
  exact ⟨s1, s3, s4⟩
theorem fnV_inj {ks ls : List Int} {m : Nat} (hk : ks.length = m) (hl : ls.length = m) (h : ∀ j, j ≤ m → fnV ks j = fnV ls j) : ks = ls := by
  refine List.ext_getElem (by omega) (fun j h1 h2 => ?_)
  have := h (j + 1) (by omega)
  unfold fnV at this
  simpa [List.getD, h1, h2] using this
/-- Where some numbers meet the constraints, the specification's rounds come to the least ones. -/
theorem sol_some {m : Nat} {cs : List Cn} {ks : List Int} (hok : consB m cs = true) (hl : ks.length = m) (hs : Sol m (cs.map ctC) (fnV ks)) (hm : ∀ x, Sol m (cs.map ctC) x → ∀ j, j ≤ m → fnV ks j ≤ x j) : solS m cs = (ks, [], true) := by
  obtain ⟨r1, r2⟩ := roundsV_fn cs m (cn_rng hok) (m + 2)
  have key : ∀ x, Sol m (cs.map ctC) x → (∀ c ∈ cs.map ctC, met (rRounds (cs.map ctC) (m + 2)) c) ∧ rRounds (cs.map ctC) (m + 2) 0 = 0 ∧ ∀ j, j ≤ m → rRounds (cs.map ctC) (m + 2) j ≤ x j := fun x hx => rounds_meet hx (okc_ct hok) (by omega)
  obtain ⟨k1, k2, _⟩ := key _ hs
  have hsr : Sol m (cs.map ctC) (fnV (roundsV cs m (m + 2))) := by
    rw [r1]
    exact ⟨k2, fun j _ => rounds_pos _ _ _, k1⟩
  have e : roundsV cs m (m + 2) = ks := by
    refine fnV_inj r2 hl (fun j hj => ?_)
    refine least_one hsr hs (fun x hx j hj => ?_) hm j hj
    rw [r1]
    exact (key x hx).2.2 j hj
  unfold solS
  rw [if_neg (by rw [hok]; decide)]
  rw [show ((m : Int)).toNat = m from rfl]
  rw [if_pos ((meetsB_sol r2 hok).2 hsr), e]
/-- Where none do, it tells the first cycle. -/
theorem sol_none {m : Nat} {cs : List Cn} (hok : consB m cs = true) (hn : ¬ ∃ x, Sol m (cs.map ctC) x) : solS m cs = ([], (firstI m (cs.map ctC)).map (fun i : Nat => (i : Int)), false) := by
  obtain ⟨r1, r2⟩ := roundsV_fn cs m (cn_rng hok) (m + 2)
  unfold solS
  rw [if_neg (by rw [hok]; decide)]
  rw [show ((m : Int)).toNat = m from rfl]
  rw [if_neg (fun h => hn ⟨_, (meetsB_sol r2 hok).1 h⟩), first_both, List.length_map]
theorem solS_no {n : Int} {cs : List Cn} (h : consB n cs = false) : solS n cs = ([], [], false) := by
  unfold solS
  rw [if_pos h]
/-- A row of one's own. -/
def OwI (lo : Nat) (w : World) (v : Value) (ks : List Int) : Prop := w.ownsRow lo 3 1 v ks.length (ks.map (Value.int .i64))
theorem OwI.at {lo : Nat} {w : World} {v : Value} {ks : List Int} (h : OwI lo w v ks) : IntsAt w v ks := row_ints0 (n := ks.length) h rfl
theorem OwI.nil (lo : Nat) (w : World) : OwI lo w (.slice none 0 0) [] := World.ownsRow_nil _ _ _ _
def SoOwn (r : List Int × List Int × Bool) (w : World) (e : Ending) (w' : World) : Prop :=
  ∃ v1 v2, e = .returned (.tuple #[v1, v2, .bool r.2.2]) ∧ OwI w.heap.size w' v1 r.1 ∧ OwI w.heap.size w' v2 r.2.1 ∧ Below w.heap.size w w'
set_option maxRecDepth 20000 in
set_option maxHeartbeats 2000000 in
theorem implSolve_any (n : Int) (v : Value) (cs : List Cn) (w : World) (hn : ConsAt w v cs) :
    Calls Try.prog 9 #[.int .i64 n, v] w (SoOwn (solS n cs) w) := by
  have HN := hide hn
  obtain ⟨a2, cap2, rfl, _, _, _⟩ := hn
  have HOK := hide (implConsOk_any n _ cs w HN.out)
  cases hok : consB n cs with
  | false =>
    rw [hok] at HOK
    have HR := hide (solS_no hok)
    rw [HR.out]
    clear hok
    go_enter Try.func9, Try.ntmps9
    go_wp2_with (first
      | (go_at_call 24; refine HOK.out.mono ?_; rintro e w1 ⟨rfl, hb1⟩; have HB1 := hide hb1; clear hb1)
      | fail)
    refine bodyPost_ret (v := .tuple #[.slice none 0 0, .slice none 0 0, .bool false]) (by simp [results, Try.results9, go_sem]) rfl ⟨_, _, rfl, OwI.nil _ _, OwI.nil _ _, HB1.out⟩
  | true =>
    rw [hok] at HOK
    obtain ⟨m, rfl⟩ : ∃ m : Nat, n = m := ⟨n.toNat, by have := (consB_yes hok).1; omega⟩
    have HLN := hide (fun W (hW : Below w.heap.size w W) => leastNumbers_any m _ cs W (HN.out.keep hW) hok)
    have HFC := hide (fun W (hW : Below w.heap.size w W) => firstCycle_any m _ cs W (HN.out.keep hW) hok)
    have HSS := hide (fun ks hl hs hm => sol_some (m := m) (cs := cs) (ks := ks) hok hl hs hm)
    have HSN := hide (fun hn => sol_none (m := m) (cs := cs) hok hn)
    clear hok
    go_enter Try.func9, Try.ntmps9
    go_wp2_with (first
      | (go_at_call 24; refine HOK.out.mono ?_; rintro e w1 ⟨rfl, hb1⟩; have HB1 := hide hb1; clear hb1)
      | (go_at_call 25; refine (HLN.out _ HB1.out).mono ?_; rintro e w2 ⟨hb2, (⟨v2, ks2, rfl, hr2, hl2, hs2, hm2⟩ | ⟨rfl, hno⟩)⟩; have HB2 := hide (bel_trans HB1.out hb2); have HW2 := hide (And.intro hr2 (And.intro hl2 (And.intro hs2 hm2))); clear hb2 hr2 hl2 hs2 hm2; rotate_left; have HB2 := hide (bel_trans HB1.out hb2); have HW2 := hide hno; clear hb2 hno; rotate_left)
      | (go_at_call 26; refine (HFC.out _ HB2.out).mono ?_; rintro e w3 ⟨v3, rfl, hr3, hb3⟩; have HR3 := hide (And.intro hr3 hb3); clear hr3 hb3)
      | fail)
    · obtain ⟨hr2, hl2, hs2, hm2⟩ := HW2.out
      rw [HSS.out ks2 hl2 hs2 hm2]
      refine bodyPost_ret (v := .tuple #[v2, .slice none 0 0, .bool true]) (by simp [results, Try.results9, go_sem]) rfl ⟨_, _, rfl, ?_, OwI.nil _ _, HB2.out⟩
      unfold OwI
      rw [hl2]
      exact row_from hr2 HB1.out.size
    · rw [HSN.out HW2.out]
      refine bodyPost_ret (v := .tuple #[.slice none 0 0, v3, .bool false]) (by simp [results, Try.results9, go_sem]) rfl ⟨_, _, rfl, OwI.nil _ _, ?_, bel_trans HB2.out HR3.out.2⟩
      have h := row_from HR3.out.1 HB2.out.size
      unfold OwI
      unfold natI at h
      rw [List.map_map, List.length_map]
      exact h
end Go.Proofs.Yteedainidoldoaa
