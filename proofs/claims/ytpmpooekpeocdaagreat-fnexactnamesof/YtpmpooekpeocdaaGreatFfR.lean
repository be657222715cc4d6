/- What the specification's l5ParamsOk, l5Empty and none answer. -/
import Derived.Test.YtpmpooekpeocdaaGreatDcE
import Derived.Test.YtpmpooekpeocdaaGreatSpec
import Derived.Test.YtpmpooekpeocdaaGreatDcM
import Derived.Test.YtpmpooekpeocdaaGreatFoA
namespace Go.Proofs.YtpmpooekpeocdaaGreat
open Go.ChangeShapes Go.WideShapes Go.ChangeAt Go.RowKit

set_option maxRecDepth 20000 in
set_option maxHeartbeats 4000000 in
theorem l5ParamsOk_any (v : Value) (ps : List ByteArray) (w : World) (hv : StrsAt w v ps) (hz : ∀ s ∈ ps, s.size ≤ maxLen) :
    Calls Tryz.prog 72 #[v] w fun e w' => e = .returned (.bool (paramsB ps)) ∧ Below w.heap.size w w' := by
  have HV := hide hv
  have HZ := hide hz
  obtain ⟨a, cap, rfl, hlc, hcm, hc⟩ := hv
  have HC := hide hc
  unfold maxLen at hcm
  obtain ⟨A, hA⟩ : ∃ A, A = paramsB ps := ⟨_, rfl⟩
  rw [← hA]
  have HA := hide hA
  clear hA hc hz
  by_cases h6 : 6 < ps.length
  · have d6 : decide ((6 : Int) < (ps.length : Int)) = true := by simp; omega
    have hA : A = false := by rw [HA.out]; unfold paramsB; rw [show decide (ps.length ≤ 6) = false by simp; omega]; rfl
    subst hA
    go_enter Tryz.func72, Tryz.ntmps72
    go_wp2_with fail
    go_ret
    exact ⟨rfl, Below.refl _ _⟩
  have d6 : decide ((6 : Int) < (ps.length : Int)) = false := by simp; omega
  have HA2 : Hid (A = parsB ps ps.length) := by show _ = _; rw [HA.out]; unfold paramsB; rw [show decide (ps.length ≤ 6) = true by simp; omega]; rfl
  go_enter Tryz.func72, Tryz.ntmps72
  go_wp2_with fail
  go_loopw [3] (fun i wr => ∃ k : Nat, k ≤ ps.length ∧ i = .int .i64 k ∧ Hid (parsB ps k = true) ∧ Hid (Below w.heap.size w wr)) (fun i _ => ps.length - (intOf i).toNat)
  case atStart => exact ⟨0, by omega, rfl, rfl, Below.refl _ _⟩
  case round =>
    obtain ⟨k, hk, rfl, HP, HB⟩ := hrel
    by_cases hlt : k < ps.length
    · have hlt' : (k : Int) < ps.length := by omega
      obtain ⟨b, off, rfl, hcc⟩ := HC.out (by omega)
      have c1 := keep_cell HB.out (hcc k hlt)
      have l1 := lt_cell c1
      have HG : Hid (ps.getD k ⟨#[]⟩ = ps[k]) := by show _ = _; simp [List.getD, hlt]
      have HS := hide (HZ.out ps[k] (List.getElem_mem hlt))
      have HX := hide ((HV.out.keep HB.out).cut k (by omega))
      have HN : Hid (parsB ps (k + 1) = (paramB ps[k] && !hasB (ps.take k) ps[k])) := by show _ = _; simp only [parsB]; rw [HP.out, HG.out]; rfl
      clear hcc
      generalize ps[k] = s at *
      have HC1 := hide (fun x => l1ParamOk_any s x HS.out)
      have HC2 := hide (fun n => l1In_any _ (ps.take k) s (wr.drewN n) (HX.out.keep (below_drewN (Below.refl wr.heap.size wr) n)))
      have hsl : (k : Int) ≤ (cap : Int) := by omega
      have HBD := hide (fun n => below_drewN HB.out n)
      go_upto_region 6 with fail
      cases hp : paramB s with
      | false =>
        rw [hp] at HC1
        have hA : A = false := by rw [HA2.out]; exact parsB_no (by rw [HN.out, hp]; rfl) _ hlt
        subst hA
        go_quiet (first
          | (go_at_call 105; refine Calls.quiet_of_same (HC1.out _))
          | fail)
        go_wp2_with fail
        go_ret
        exact ⟨rfl, HBD.out _⟩
      | true =>
        rw [hp] at HC1
        cases hq : hasB (ps.take k) s with
        | true =>
          rw [hq] at HC2
          have hA : A = false := by rw [HA2.out]; exact parsB_no (by rw [HN.out, hp, hq]; rfl) _ hlt
          subst hA
          go_quiet (first
            | (go_at_call 105; refine Calls.quiet_of_same (HC1.out _))
            | (go_at_call 76; refine Calls.quiet_of_same (HC2.out _))
            | fail)
          go_wp2_with fail
          go_ret
          exact ⟨rfl, HBD.out _⟩
        | false =>
          rw [hq] at HC2
          have HP1 : Hid (parsB ps (k + 1) = true) := by show _ = _; rw [HN.out, hp, hq]; rfl
          go_quiet (first
            | (go_at_call 105; refine Calls.quiet_of_same (HC1.out _))
            | (go_at_call 76; refine Calls.quiet_of_same (HC2.out _))
            | fail)
          go_wp2_with fail
          go_roundw
          case rel => exact ⟨k + 1, by omega, by go_num, HP1, HBD.out _⟩
          case measure => simp [intOf]; omega
    · have hlt' : ¬ (k : Int) < ps.length := by omega
      have hA : A = true := by rw [HA2.out]; have e : k = ps.length := by omega
                               rw [← e]; exact HP.out
      subst hA
      go_wp2_with fail
      go_ret
      exact ⟨rfl, HB.out⟩
set_option maxHeartbeats 1000000 in
theorem l5Empty_any (v : Value) (ts : List Td) (w : World) (hv : TNodesAt w v ts) :
    Calls Tryz.prog 73 #[.agg #[v]] w fun e w' => e = .returned (.bool (decide (ts.length = 0))) ∧ Below w.heap.size w w' := by
  obtain ⟨a, cap, rfl, q1, q2, q3⟩ := hv
  clear q1 q2 q3
  obtain ⟨W, hW⟩ : ∃ W, W = w.alloc (.cells #[.slice a ts.length cap] 33) := ⟨_, rfl⟩
  have HBW := hide (show Below w.heap.size w W by rw [hW]; exact bel_alloc (Below.refl _ _) _)
  have c0 : W.cell? ⟨w.heap.size, 0, none⟩ = some (.slice a ts.length cap) := by rw [hW]; simp [go_sem]
  have l0 := lt_cell c0
  go_enter Tryz.func73, Tryz.ntmps73
  go_upto_region 1 with fail
  rw [← hW]
  clear hW
  go_wp2_with fail
  go_ret
  refine ⟨?_, HBW.out⟩
  refine congrArg (fun b => Ending.returned (.bool b)) ?_
  first | rfl | (rw [Bool.eq_iff_iff]; simp; done) | (rw [Bool.eq_iff_iff]; simp; omega)
set_option maxHeartbeats 1000000 in
theorem dnone_some (a : Addr) (w : World) : Calls Tryz.prog 38 #[.pointer (some a)] w fun e w' => e = .returned (.bool false) ∧ w' = w := by
  go_enter Tryz.func38, Tryz.ntmps38
  go_wp2_with fail
  go_ret
  exact ⟨by simp, rfl⟩
set_option maxHeartbeats 1000000 in
theorem dnone_none (w : World) : Calls Tryz.prog 38 #[.pointer none] w fun e w' => e = .returned (.bool true) ∧ w' = w := by
  go_enter Tryz.func38, Tryz.ntmps38
  go_wp2_with fail
  go_ret
  exact ⟨by simp, rfl⟩
end Go.Proofs.YtpmpooekpeocdaaGreat

/- What is known while the specification reads a declaration. No program is walked here. -/
namespace Go.Proofs.YtpmpooekpeocdaaGreat
open Go.ChangeShapes Go.WideShapes Go.ChangeAt Go.RowKit

/-- A block that holds what l5Read answers. -/
def T7 (w : World) (b : Nat) (xs : List Value) : Prop := w.ownsRow 0 97 7 (.slice (some ⟨b, 0, none⟩) 1 1) 1 xs
theorem T7.cell {w : World} {b : Nat} {xs : List Value} (h : T7 w b xs) (o : Nat) (ho : o < 7) : w.cell? ⟨b, o, none⟩ = xs[o]? := World.ownsRow.cellAt h o (by omega)
theorem T7.set {w : World} {b : Nat} {xs : List Value} (h : T7 w b xs) (o : Nat) (u : Value) : T7 (w.setCell ⟨b, o, none⟩ u) b (xs.set o u) := (World.ownsRow.stored h o u).1
theorem T7.frozen {w : World} {b : Nat} {xs : List Value} (h : T7 w b xs) (o : Nat) : w.frozen? ⟨b, o, none⟩ = false := World.ownsRow.frozenAt h o
theorem T7.lt {w : World} {b : Nat} {xs : List Value} (h : T7 w b xs) : b < w.heap.size := (World.ownsRow.lt h b rfl).2
theorem t7_same {w w' : World} {b : Nat} {xs : List Value} (h : T7 w b xs) (hh : w'.heap[b]? = w.heap[b]?) : T7 w' b xs := row_same h (fun g hg => by
  have e : b = g := by simpa [Value.ownBlock] using hg
  subst e; exact hh)
structure LSt (w : World) (dcl : Array Value) (B : Nat) (xs : List Value) (wr : World) : Prop where
  bel : Below w.heap.size w wr
  n0 : wr.heap[w.heap.size]? = some (.cells dcl 36 (0, 0))
  n1 : T7 wr B xs
  lo : w.heap.size < B
section
variable {w : World} {dcl : Array Value} {B : Nat} {xs : List Value} {wr w' : World}
theorem LSt.sz (h : LSt w dcl B xs wr) : B < wr.heap.size := h.n1.lt
theorem LSt.keep (h : LSt w dcl B xs wr) (hb : Below wr.heap.size wr w') : LSt w dcl B xs w' := by
  have hs := h.sz
  have hl := h.lo
  exact ⟨h.bel.trans (hb.mono h.bel.size), (hb.block _ (by omega)).trans h.n0, t7_same h.n1 (hb.block _ hs), h.lo⟩
theorem LSt.grow {r : Option Nat} (h : LSt w dcl B xs wr) (hg : wr.grownBy w' r) (hr : ∀ b, r = some b → B < b) : LSt w dcl B xs w' := by
  have hs := h.sz
  have hl := h.lo
  exact ⟨h.bel.grown hg h.bel.size (fun k hk => by have := hr k hk; omega), (hg.block _ (by omega) (fun e => by have := hr _ e.symm; omega)).trans h.n0, t7_same h.n1 (hg.block _ hs (fun e => by have := hr _ e.symm; omega)), h.lo⟩
theorem LSt.set (h : LSt w dcl B xs wr) (o : Nat) (u : Value) : LSt w dcl B (xs.set o u) (wr.setCell ⟨B, o, none⟩ u) := by
  have hs := h.sz
  have hl := h.lo
  have hg := grown_set wr ⟨B, o, none⟩ u
  exact ⟨h.bel.grown hg h.bel.size (fun k hk => by have : B = k := Option.some.inj hk; omega), (hg.block _ (by omega) (fun e => by have : w.heap.size = B := Option.some.inj e; omega)).trans h.n0, h.n1.set o u, h.lo⟩
theorem LSt.row {e s n : Nat} {v : Value} {ys : List Value} (h : LSt w dcl B xs wr) (ho : wr.ownsRow (B + 1) e s v n ys) (hg : wr.grownBy w' v.ownBlock) : LSt w dcl B xs w' := h.grow hg (fun b hb => by have := (World.ownsRow.lt ho b hb).1; omega)
end
theorem cts_at (ps : List ByteArray) (s : ByteArray) (cs : List Ct) (j : Nat) (h : j < cs.length) : ctsB ps (takenN s cs j) (cs.drop j) = (plainB cs[j].t ps && (nameB cs[j].s && (!hasB (takenN s cs j) cs[j].s && ctsB ps (takenN s cs (j + 1)) (cs.drop (j + 1))))) := by
  rw [List.drop_eq_getElem_cons h, takenN_succ s cs j h]
  rfl
end Go.Proofs.YtpmpooekpeocdaaGreat

/- What stands in the block that the specification's l5Read answers. No program is walked here. -/
namespace Go.Proofs.YtpmpooekpeocdaaGreat
open Go.ChangeShapes Go.WideShapes Go.ChangeAt Go.RowKit

theorem rows_apart {w : World} {b1 b2 s1 s2 n1 n2 : Nat} {e1 e2 : TypeId} {v1 v2 : Value} {xs1 xs2 : List Value} (h1 : w.ownsRow b1 e1 s1 v1 n1 xs1) (h2 : w.ownsRow b2 e2 s2 v2 n2 xs2) (he : e1 ≠ e2) (g : Nat) (hg1 : v1.ownBlock = some g) : v2.ownBlock ≠ some g := by
  intro hg2
  rcases h1.2 with ⟨a, _⟩ | ⟨g1, c1, cu1, a, _, k1, _⟩
  · rw [a] at hg1; simp [Value.ownBlock] at hg1
  rcases h2.2 with ⟨a2, _⟩ | ⟨g2, c2, cu2, a2, _, k2, _⟩
  · rw [a2] at hg2; simp [Value.ownBlock] at hg2
  have q1 : g1 = g := by rw [a] at hg1; simpa [Value.ownBlock] using hg1
  have q2 : g2 = g := by rw [a2] at hg2; simpa [Value.ownBlock] using hg2
  subst q1
  subst q2
  rw [k1] at k2
  injection k2 with k2
  injection k2 with _ k2 _
  exact he k2
theorem Tryz.info136 : (Tryz.prog.info? 136).map (fun i => (i.zero, i.size, i.bytes)) = some (some (.agg #[.string ⟨#[]⟩, .pointer none]), 2, 24) := by kernel_rfl
structure DcV (d : Dc) : Prop where
  t : ∀ td ∈ d.t, td.lv.length ≤ 1048576
  v : ∀ td ∈ d.v, td.lv.length ≤ 1048576
  cs : ∀ c ∈ d.cs, ∀ td ∈ c.t, td.lv.length ≤ 1048576
/-- A row of another kind is written. -/
theorem carry_row {Q R : Nat → Prop} {w w' : World} {base s n : Nat} {e : TypeId} {v : Value} {xs : List Value} (hr : w.ownsRow base e s v n xs) (h1 : e ≠ 102) (h2 : e ≠ 191) (hg : w.grownBy w' v.ownBlock) (hQ : ∀ b, Q b → b < w.heap.size → v.ownBlock ≠ some b ∧ R b) : Carry Q R w w' := by
  refine ⟨fun p ys h => row_same h (fun g hp => hg.block g (World.ownsRow.lt h g hp).2 (fun ee => rows_apart h hr (fun e2 => h1 e2.symm) g hp ee.symm)),
    fun b hb hl => ⟨(hQ b hb hl).2, fun o u hu => by rw [hg.cell_far ⟨b, o, none⟩ hl (fun ee => (hQ b hb hl).1 ee.symm)]; exact hu⟩,
    fun ps us h => ⟨h.1, fun j a1 a2 => ((h.2 j a1 a2).grown hg (fun k hk => ?_)).mono hg.size⟩⟩
  rcases hr.2 with ⟨h', _⟩ | ⟨g', cap', cur, h', _, h4, _⟩
  · rw [h'] at hk; simp [Value.ownBlock] at hk
  · rw [h'] at hk
    have ek : g' = k := by simpa [Value.ownBlock] using hk
    subst ek
    exact ⟨cur, e, h2, h4⟩
/-- The blocks that l5Read does not write once a term is read. -/
def offB (B : Nat) (v1 v2 : Value) (b : Nat) : Prop := b ≠ B ∧ v1.ownBlock ≠ some b ∧ v2.ownBlock ≠ some b
theorem carry_new {Q : Nat → Prop} {w : World} {lo B : Nat} {v1 v2 : Value} (hQ : ∀ b, Q b → lo ≤ b) (hB : B < lo) (h1 : ∀ g, v1.ownBlock = some g → g < lo) (h2 : ∀ g, v2.ownBlock = some g → g < lo) : Carry Q (offB B v1 v2) w w :=
  ⟨fun _ _ h => h, fun b hb _ => ⟨⟨fun e => by have := hQ b hb; omega, fun e => by have := hQ b hb; have := h1 b e; omega, fun e => by have := hQ b hb; have := h2 b e; omega⟩, fun _ _ h => h⟩, fun _ _ h => h⟩
theorem carry_bel {Q : Nat → Prop} {w w' : World} {B : Nat} {v1 v2 : Value} (hb : Below w.heap.size w w') (hQ : ∀ b, Q b → offB B (.slice none 0 0) v2 b) (h1 : ∀ g, v1.ownBlock = some g → w.heap.size ≤ g) : Carry Q (offB B v1 v2) w w' :=
  ⟨fun _ _ h => h.keep hb, fun b hk hl => ⟨⟨(hQ b hk).1, fun e => by have := h1 b e; omega, (hQ b hk).2.2⟩, fun _ _ hu => keep_cell hb hu⟩, fun _ _ h => h.keep hb⟩
theorem carry_v1 {w w' : World} {B base s n n' cap' g : Nat} {e : TypeId} {v1 v2 : Value} {xs : List Value} (hr : w.ownsRow base e s v1 n xs) (h1 : e ≠ 102) (h2 : e ≠ 191) (hg : w.grownBy w' v1.ownBlock) (hat : v1.ownBlock = some g ∨ g = w.heap.size) : Carry (offB B v1 v2) (offB B (.slice (some ⟨g, 0, none⟩) n' cap') v2) w w' :=
  carry_row hr h1 h2 hg (fun b hb hl => ⟨hb.2.1, hb.1, fun e => by
    have e : g = b := by simpa [Value.ownBlock] using e
    rcases hat with h | h
    · exact hb.2.1 (by rw [h, e])
    · omega, hb.2.2⟩)
theorem carry_v2 {w w' : World} {B base s n n' cap' g : Nat} {e : TypeId} {v1 v2 : Value} {xs : List Value} (hr : w.ownsRow base e s v2 n xs) (h1 : e ≠ 102) (h2 : e ≠ 191) (hg : w.grownBy w' v2.ownBlock) (hat : v2.ownBlock = some g ∨ g = w.heap.size) : Carry (offB B v1 v2) (offB B v1 (.slice (some ⟨g, 0, none⟩) n' cap')) w w' :=
  carry_row hr h1 h2 hg (fun b hb hl => ⟨hb.2.2, hb.1, hb.2.1, fun e => by
    have e : g = b := by simpa [Value.ownBlock] using e
    rcases hat with h | h
    · exact hb.2.2 (by rw [h, e])
    · omega⟩)
theorem carry_set {w : World} {B : Nat} {xs : List Value} {v1 v2 : Value} (h : T7 w B xs) (o : Nat) (u : Value) : Carry (offB B v1 v2) (offB B v1 v2) w (w.setCell ⟨B, o, none⟩ u) := by
  refine carry_row h (by decide) (by decide) (grown_set w ⟨B, o, none⟩ u) (fun b hb hl => ⟨fun e => ?_, hb⟩)
  have e : B = b := by simpa [Value.ownBlock] using e
  exact hb.1 e.symm
/-- A node of the specification's stands for a term. -/
def SpR (Q : Nat → Prop) (w : World) (ts : List Td) (q : Nat) : Prop := ∀ T : Tt, T.flat 0 = ts → SpT Q w T q
theorem SpR.to {Q R : Nat → Prop} {w w' : World} {ts : List Td} {q : Nat} (h : SpR Q w ts q) (hc : Carry Q R w w') : SpR R w' ts q := fun T hT => (h T hT).to hc
theorem SpR.keep {Q : Nat → Prop} {w w' : World} {ts : List Td} {q : Nat} (h : SpR Q w ts q) (hb : Below w.heap.size w w') : SpR Q w' ts q := h.to (Carry.below hb)
def ctCells : List Ct → List Nat → List Value
  | c :: cs, q :: qs => .string c.s :: .pointer (some ⟨q, 0, none⟩) :: ctCells cs qs
  | _, _ => []
theorem ctCells_snoc : ∀ (cs : List Ct) (qs : List Nat) (c : Ct) (q : Nat), cs.length = qs.length → ctCells (cs ++ [c]) (qs ++ [q]) = ctCells cs qs ++ [.string c.s, .pointer (some ⟨q, 0, none⟩)]
  | [], [], _, _, _ => rfl
  | [], _ :: _, _, _, h => by simp at h
  | _ :: _, [], _, _, h => by simp at h
  | a :: cs, b :: qs, c, q, h => by
    simp only [List.cons_append, ctCells]
    rw [ctCells_snoc cs qs c q (by simpa using h)]
theorem ctCells_at : ∀ (cs : List Ct) (qs : List Nat) (i : Nat) (h : i < cs.length) (h2 : i < qs.length), (ctCells cs qs)[2 * i]? = some (.string cs[i].s) ∧ (ctCells cs qs)[2 * i + 1]? = some (.pointer (some ⟨qs[i], 0, none⟩))
  | a :: cs, b :: qs, 0, _, _ => ⟨rfl, rfl⟩
  | a :: cs, b :: qs, i + 1, h, h2 => by
    have := ctCells_at cs qs i (by simpa using h) (by simpa using h2)
    refine ⟨?_, ?_⟩
    · rw [show 2 * (i + 1) = 2 * i + 1 + 1 by omega]; exact this.1
    · rw [show 2 * (i + 1) + 1 = 2 * i + 1 + 1 + 1 by omega]; exact this.2
/-- What l5Read answers, A saying whether the declaration is shaped. -/
def RdF (base : Nat) (A : Bool) (d : Dc) (pv : Value) (e : Ending) (w' : World) : Prop :=
  (A = false ∧ e = .returned (.pointer none)) ∨
  (A = true ∧ ∃ (B : Nat) (tp vp cv : Value) (qs : List Nat) (Q : Nat → Prop), e = .returned (.pointer (some ⟨B, 0, none⟩)) ∧ base ≤ B ∧ T7 w' B [.int .i64 d.k, .string d.s, pv, tp, vp, .int .i64 d.f, cv] ∧ (d.k ≠ 5 → ∃ q, tp = .pointer (some ⟨q, 0, none⟩) ∧ SpR Q w' d.t q) ∧ qs.length = d.cs.length ∧ w'.ownsRow (B + 1) 136 2 cv d.cs.length (ctCells d.cs qs) ∧ ∀ i (h : i < qs.length) (h2 : i < d.cs.length), SpR Q w' d.cs[i].t qs[i])
end Go.Proofs.YtpmpooekpeocdaaGreat
