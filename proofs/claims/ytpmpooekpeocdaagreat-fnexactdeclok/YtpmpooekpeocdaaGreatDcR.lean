/- What the specification's l5Plain answers. -/
import Derived.Test.YtpmpooekpeocdaaGreatDcF
import Derived.Test.YtpmpooekpeocdaaGreatMkB
import Derived.Test.YtpmpooekpeocdaaGreatTFTree
import Derived.Test.YtpmpooekpeocdaaGreatLoG
import Derived.Test.YtpmpooekpeocdaaGreatSpec
import Derived.Test.YtpmpooekpeocdaaGreatDcO
namespace Go.Proofs.YtpmpooekpeocdaaGreat
open Go.ChangeShapes Go.WideShapes Go.ChangeAt Go.RowKit

/-- What l5Plain answers: a root where the term is plain, else nothing. -/
def PlOut (base : Nat) (ts : List Td) (ps : List ByteArray) (e : Ending) (w' : World) : Prop :=
  (plainB ts ps = false ∧ e = .returned (.pointer none)) ∨ (plainB ts ps = true ∧ KidsIn ts ts.length ∧ ∃ pt Q, e = .returned (.pointer (some ⟨pt (ts.length - 1), 0, none⟩)) ∧ Forest Q w' pt ts ts.length ∧ ∀ b, Q b → base ≤ b)
set_option maxRecDepth 20000 in
set_option maxHeartbeats 4000000 in
theorem l5Plain_any (v pv : Value) (ts : List Td) (ps : List ByteArray) (w : World) (hns : TNodesAt w v ts) (hsz : ∀ td ∈ ts, TLens td) (hlv : ∀ td ∈ ts, td.lv.length ≤ 1048576) (hps : StrsAt w pv ps) :
    Calls Tryz.prog 74 #[.agg #[v], pv] w fun e w' => PlOut w.heap.size ts ps e w' ∧ Below w.heap.size w w' := by
  have HN1 := hide hns
  have HPS := hide hps
  obtain ⟨a1, cap1, rfl, q1, q2, q3⟩ := hns
  obtain ⟨pa, pc, rfl, q4, q5, q6⟩ := hps
  clear q1 q2 q3 q4 q5 q6
  obtain ⟨W, hW⟩ : ∃ W, W = w.alloc (.cells #[.slice a1 ts.length cap1] 33) := ⟨_, rfl⟩
  have HBW := hide (show Below w.heap.size w W by rw [hW]; exact bel_alloc (Below.refl _ _) _)
  have c0 : W.cell? ⟨w.heap.size, 0, none⟩ = some (.slice a1 ts.length cap1) := by rw [hW]; simp [go_sem]
  have l0 := lt_cell c0
  have HT1 := hide (l3TreeF_any _ ts W (HN1.out.keep HBW.out) hsz hlv)
  clear hsz hlv
  go_enter Tryz.func74, Tryz.ntmps74
  go_upto_region 1 with fail
  rw [← hW]
  clear hW
  go_wp2_with fail
  refine HT1.out.mono ?_
  rintro e w1 ⟨hA, hb1⟩
  have HB1 := hide (bel_trans HBW.out hb1)
  clear HT1 c0 l0
  rcases hA with ⟨ht, rfl⟩ | ⟨ht, hkin, pt, Q, rfl, hF, hpt, hQ⟩
  · have HE : Hid (plainB ts ps = false) := plain_bad ht
    have HN := hide (tnone_none w1)
    clear ht hb1
    go_wp2_with (go_at_call 75; refine HN.out.mono ?_; rintro e w3 ⟨rfl, hw⟩; have hw := hw.symm; subst hw)
    go_ret
    exact ⟨.inl ⟨HE.out, rfl⟩, HB1.out⟩
  · have hp := term_pos ht
    have hlen : ts.length ≤ 20000 := by have ht2 := ht; unfold termB termB' at ht2; simp at ht2; exact ht2.1
    have hz := (hF (ts.length - 1) (by omega) (by omega)).sz
    have d7 : w1.cell? ⟨pt (ts.length - 1), 7, none⟩ = some (.int .i64 (rootZ ts).lo) := by
      obtain ⟨_, _, _, _, _, _, hz⟩ := hz
      rw [World.ownsRow.cellAt hz 7 (by omega)]; rfl
    have d8 : w1.cell? ⟨pt (ts.length - 1), 8, none⟩ = some (.bool (rootZ ts).ho) := by
      obtain ⟨_, _, _, _, _, _, hz⟩ := hz
      rw [World.ownsRow.cellAt hz 8 (by omega)]; rfl
    have HLO := hide (fun h => plain_lo (ts := ts) (ps := ps) h)
    have HHO := hide (fun h => plain_ho (ts := ts) (ps := ps) h)
    have HOK := hide (fun h1 h2 => plain_ok (ts := ts) (ps := ps) ht h1 h2)
    have HLT : Hid (levsA ts = levsT ts) := by show _ = _; unfold levsA; rw [if_pos ht]
    have HB2 := hide (bel_alloc (Below.refl w1.heap.size w1) (.cells #[] 9))
    have HC : Hid (Calls Tryz.prog 107 #[.pointer (some ⟨pt (ts.length - 1), 0, none⟩), .slice (some ⟨w1.heap.size, 0, none⟩) 0 0] (w1.alloc (.cells #[] 9)) fun e w' => ∃ v', e = .returned v' ∧ OwnS w.heap.size w' v' (levsT ts) ∧ Below (w1.alloc (.cells #[] 9)).heap.size (w1.alloc (.cells #[] 9)) w') := by
      have e1 : ((ts.length - 1 : Nat) : Int) = (ts.length : Int) - 1 := by omega
      have h := l3Levs_all (pt := pt) ht ts.length (ts.length - 1) (w1.alloc (.cells #[] 9)) Q (.slice (some ⟨w1.heap.size, 0, none⟩) 0 0) [] w.heap.size (by omega) (by omega) (hF.to (Carry.below HB2.out)) (Nat.le_trans HB1.out.size HB2.out.size) (World.ownsRow_lit (base := w.heap.size) (e := 9) (size := 1) w1 #[] 0 HB1.out.size (by unfold maxLen; omega) rfl) (by rw [e1]; have := levs_root_len ht (lvN_le ht); simp; omega)
      rw [e1] at h
      exact h
    have HFQ := hide (show KidsIn ts ts.length ∧ Forest Q w1 pt ts ts.length ∧ ∀ b, Q b → w.heap.size ≤ b from ⟨hkin, hF, fun b hb => Nat.le_trans HBW.out.size (hQ b hb)⟩)
    clear ht hF hkin hpt hQ hb1 hz hp hlen
    obtain ⟨pb, hpb⟩ : ∃ pb, pb = pt (ts.length - 1) := ⟨_, rfl⟩
    rw [← hpb] at d7 d8 HC ⊢
    have HPB := hide hpb
    clear hpb
    have lp := lt_cell d7
    have HN := hide (tnone_some ⟨pb, 0, none⟩ w1)
    generalize rootZ ts = z at *
    by_cases hlo : 0 < z.lo
    · have HE : Hid (plainB ts ps = false) := HLO.out hlo
      have dlo : decide ((0 : Int) < z.lo) = true := by simp; omega
      go_wp2_with (go_at_call 75; refine HN.out.mono ?_; rintro e w3 ⟨rfl, hw⟩; have hw := hw.symm; subst hw)
      go_ret
      exact ⟨.inl ⟨HE.out, rfl⟩, HB1.out⟩
    have dlo : decide ((0 : Int) < z.lo) = false := by simp; omega
    cases hho : z.ho with
    | true =>
      have HE : Hid (plainB ts ps = false) := HHO.out hho
      rw [hho] at d8
      go_wp2_with (go_at_call 75; refine HN.out.mono ?_; rintro e w3 ⟨rfl, hw⟩; have hw := hw.symm; subst hw)
      go_ret
      exact ⟨.inl ⟨HE.out, rfl⟩, HB1.out⟩
    | false =>
      rw [hho] at d8
      have HE : Hid (plainB ts ps = !((levsT ts).any (fun s => !hasB ps s))) := by show _ = _; rw [HOK.out (by omega) hho, HLT.out, all_any]
      clear HOK HHO HLO HLT
      generalize levsT ts = ss at *
      go_wp2_with (first | (go_at_call 75; refine HN.out.mono ?_; rintro e w3 ⟨rfl, hw⟩; have hw := hw.symm; subst hw) | (go_at_call 107; refine HC.out.mono ?_; rintro e w3 ⟨v3, rfl, hO, hb3⟩))
      have HB3 := hide (bel_trans (bel_trans HB1.out HB2.out) hb3)
      have HF3 := hide (HFQ.out.2.1.to (Carry.below (bel_trans HB2.out hb3)))
      have HF3 : Hid (Forest Q w3 pt ts ts.length) := HF3
      obtain ⟨a, cap, rfl, hlc, hcm, hcell⟩ := hO.strs
      have HCE := hide hcell
      have HF : Hid (∀ s : ByteArray, Calls Tryz.prog 76 #[.slice pa ps.length pc, .string s] w3 fun e w' => e = .returned (.bool (hasB ps s)) ∧ w' = w3) := fun s => l1In_any _ ps s w3 (HPS.out.keep HB3.out)
      unfold maxLen at hcm
      clear hcell hO hb3 HC HN HB1 HB2 d7 d8 lp
      go_wp2_with fail
      go_loop [7] (fun i => ∃ (j : Nat), j ≤ ss.length ∧ i = .int .i64 j ∧ Hid ((ss.take j).any (fun s => !hasB ps s) = false)) (fun i => ss.length - (intOf i).toNat)
      case atStart => exact ⟨0, by omega, rfl, by show _ = _; simp⟩
      case round =>
        obtain ⟨j, hj, rfl, HNJ⟩ := hrel
        by_cases hlt : j < ss.length
        · have hlt' : (j : Int) < ss.length := by omega
          obtain ⟨b, off, rfl, hcc⟩ := HCE.out (by omega)
          have d1 := hcc j hlt
          have hl1 := lt_cell d1
          have HT := hide (any_take (fun s => !hasB ps s) ss j hlt HNJ.out)
          have HO := hide (any_of (fun s => !hasB ps s) ss j hlt)
          have HP := hide (HF.out ss[j])
          have HQ := hide (show j + 1 ≤ ss.length from hlt)
          clear hcc
          generalize ss[j] = s at *
          cases hk : hasB ps s
          · rw [hk] at HP
            have HE2 : Hid (plainB ts ps = false) := by show _ = _; rw [HE.out, HO.out (by rw [hk]; rfl)]; rfl
            go_wp2_with fail
            refine HP.out.mono ?_
            rintro e w4 ⟨rfl, rfl⟩
            go_wp2_with fail
            go_ret
            exact ⟨.inl ⟨HE2.out, rfl⟩, HB3.out⟩
          · rw [hk] at HP
            have HT2 : Hid ((ss.take (j + 1)).any (fun s => !hasB ps s) = false) := by show _ = _; rw [HT.out, hk]; rfl
            go_wp2_with fail
            refine HP.out.mono ?_
            rintro e w4 ⟨rfl, rfl⟩
            go_wp2_with fail
            go_round
            case rel => exact ⟨j + 1, HQ.out, by go_num, HT2⟩
            case measure => have := HQ.out; simp [intOf]; omega
        · have hlt' : ¬ (j : Int) < ss.length := by omega
          have HE2 : Hid (plainB ts ps = true) := by
            show _ = _
            have h := HNJ.out
            rw [List.take_of_length_le (by omega)] at h
            rw [HE.out, h]
            rfl
          go_wp2_with fail
          go_ret
          exact ⟨.inr ⟨HE2.out, HFQ.out.1, pt, Q, by rw [← HPB.out] <;> rfl, HF3.out, HFQ.out.2.2⟩, HB3.out⟩
end Go.Proofs.YtpmpooekpeocdaaGreat

/- What the specification's l5ParamsOk, l5Empty and none answer. -/
namespace Go.Proofs.YtpmpooekpeocdaaGreat
open Go.ChangeShapes Go.WideShapes Go.ChangeAt Go.RowKit

set_option maxRecDepth 20000 in
set_option maxHeartbeats 4000000 in
theorem l5ParamsOk_any (v : Value) (ps : List ByteArray) (w : World) (hv : StrsAt w v ps) (hz : ∀ s ∈ ps, s.size ≤ maxLen) :
    Calls Tryz.prog 72 #[v] w fun e w' => e = .returned (.bool (paramsB ps)) ∧ Below w.heap.size w w' := by
  have HV := hide hv
  have HZ := hide hz
  obtain ⟨a, cap, rfl, hlc, hcm, hc⟩ := hv
  have HC := hide hc
  unfold maxLen at hcm
  obtain ⟨A, hA⟩ : ∃ A, A = paramsB ps := ⟨_, rfl⟩
  rw [← hA]
  have HA := hide hA
  clear hA hc hz
  by_cases h6 : 6 < ps.length
  · have d6 : decide ((6 : Int) < (ps.length : Int)) = true := by simp; omega
    have hA : A = false := by rw [HA.out]; unfold paramsB; rw [show decide (ps.length ≤ 6) = false by simp; omega]; rfl
    subst hA
    go_enter Tryz.func72, Tryz.ntmps72
    go_wp2_with fail
    go_ret
    exact ⟨rfl, Below.refl _ _⟩
  have d6 : decide ((6 : Int) < (ps.length : Int)) = false := by simp; omega
  have HA2 : Hid (A = parsB ps ps.length) := by show _ = _; rw [HA.out]; unfold paramsB; rw [show decide (ps.length ≤ 6) = true by simp; omega]; rfl
  go_enter Tryz.func72, Tryz.ntmps72
  go_wp2_with fail
  go_loopw [3] (fun i wr => ∃ k : Nat, k ≤ ps.length ∧ i = .int .i64 k ∧ Hid (parsB ps k = true) ∧ Hid (Below w.heap.size w wr)) (fun i _ => ps.length - (intOf i).toNat)
  case atStart => exact ⟨0, by omega, rfl, rfl, Below.refl _ _⟩
  case round =>
    obtain ⟨k, hk, rfl, HP, HB⟩ := hrel
    by_cases hlt : k < ps.length
    · have hlt' : (k : Int) < ps.length := by omega
      obtain ⟨b, off, rfl, hcc⟩ := HC.out (by omega)
      have c1 := keep_cell HB.out (hcc k hlt)
      have l1 := lt_cell c1
      have HG : Hid (ps.getD k ⟨#[]⟩ = ps[k]) := by show _ = _; simp [List.getD, hlt]
      have HS := hide (HZ.out ps[k] (List.getElem_mem hlt))
      have HX := hide ((HV.out.keep HB.out).cut k (by omega))
      have HN : Hid (parsB ps (k + 1) = (paramB ps[k] && !hasB (ps.take k) ps[k])) := by show _ = _; simp only [parsB]; rw [HP.out, HG.out]; rfl
      clear hcc
      generalize ps[k] = s at *
      have HC1 := hide (fun x => l1ParamOk_any s x HS.out)
      have HC2 := hide (fun n => l1In_any _ (ps.take k) s (wr.drewN n) (HX.out.keep (below_drewN (Below.refl wr.heap.size wr) n)))
      have hsl : (k : Int) ≤ (cap : Int) := by omega
      have HBD := hide (fun n => below_drewN HB.out n)
      go_upto_region 6 with fail
      cases hp : paramB s with
      | false =>
        rw [hp] at HC1
        have hA : A = false := by rw [HA2.out]; exact parsB_no (by rw [HN.out, hp]; rfl) _ hlt
        subst hA
        go_quiet (first
          | (go_at_call 105; refine Calls.quiet_of_same (HC1.out _))
          | fail)
        go_wp2_with fail
        go_ret
        exact ⟨rfl, HBD.out _⟩
      | true =>
        rw [hp] at HC1
        cases hq : hasB (ps.take k) s with
        | true =>
          rw [hq] at HC2
          have hA : A = false := by rw [HA2.out]; exact parsB_no (by rw [HN.out, hp, hq]; rfl) _ hlt
          subst hA
          go_quiet (first
            | (go_at_call 105; refine Calls.quiet_of_same (HC1.out _))
            | (go_at_call 76; refine Calls.quiet_of_same (HC2.out _))
            | fail)
          go_wp2_with fail
          go_ret
          exact ⟨rfl, HBD.out _⟩
        | false =>
          rw [hq] at HC2
          have HP1 : Hid (parsB ps (k + 1) = true) := by show _ = _; rw [HN.out, hp, hq]; rfl
          go_quiet (first
            | (go_at_call 105; refine Calls.quiet_of_same (HC1.out _))
            | (go_at_call 76; refine Calls.quiet_of_same (HC2.out _))
            | fail)
          go_wp2_with fail
          go_roundw
          case rel => exact ⟨k + 1, by omega, by go_num, HP1, HBD.out _⟩
          case measure => simp [intOf]; omega
    · have hlt' : ¬ (k : Int) < ps.length := by omega
      have hA : A = true := by rw [HA2.out]; have e : k = ps.length := by omega
                               rw [← e]; exact HP.out
      subst hA
      go_wp2_with fail
      go_ret
      exact ⟨rfl, HB.out⟩
set_option maxHeartbeats 1000000 in
theorem l5Empty_any (v : Value) (ts : List Td) (w : World) (hv : TNodesAt w v ts) :
    Calls Tryz.prog 73 #[.agg #[v]] w fun e w' => e = .returned (.bool (decide (ts.length = 0))) ∧ Below w.heap.size w w' := by
  obtain ⟨a, cap, rfl, q1, q2, q3⟩ := hv
  clear q1 q2 q3
  obtain ⟨W, hW⟩ : ∃ W, W = w.alloc (.cells #[.slice a ts.length cap] 33) := ⟨_, rfl⟩
  have HBW := hide (show Below w.heap.size w W by rw [hW]; exact bel_alloc (Below.refl _ _) _)
  have c0 : W.cell? ⟨w.heap.size, 0, none⟩ = some (.slice a ts.length cap) := by rw [hW]; simp [go_sem]
  have l0 := lt_cell c0
  go_enter Tryz.func73, Tryz.ntmps73
  go_upto_region 1 with fail
  rw [← hW]
  clear hW
  go_wp2_with fail
  go_ret
  refine ⟨?_, HBW.out⟩
  refine congrArg (fun b => Ending.returned (.bool b)) ?_
  first | rfl | (rw [Bool.eq_iff_iff]; simp; done) | (rw [Bool.eq_iff_iff]; simp; omega)
set_option maxHeartbeats 1000000 in
theorem dnone_some (a : Addr) (w : World) : Calls Tryz.prog 38 #[.pointer (some a)] w fun e w' => e = .returned (.bool false) ∧ w' = w := by
  go_enter Tryz.func38, Tryz.ntmps38
  go_wp2_with fail
  go_ret
  exact ⟨by simp, rfl⟩
set_option maxHeartbeats 1000000 in
theorem dnone_none (w : World) : Calls Tryz.prog 38 #[.pointer none] w fun e w' => e = .returned (.bool true) ∧ w' = w := by
  go_enter Tryz.func38, Tryz.ntmps38
  go_wp2_with fail
  go_ret
  exact ⟨by simp, rfl⟩
end Go.Proofs.YtpmpooekpeocdaaGreat

/- What is known while the specification reads a declaration. No program is walked here. -/
namespace Go.Proofs.YtpmpooekpeocdaaGreat
open Go.ChangeShapes Go.WideShapes Go.ChangeAt Go.RowKit

/-- A block that holds what l5Read answers. -/
def T7 (w : World) (b : Nat) (xs : List Value) : Prop := w.ownsRow 0 97 7 (.slice (some ⟨b, 0, none⟩) 1 1) 1 xs
theorem T7.cell {w : World} {b : Nat} {xs : List Value} (h : T7 w b xs) (o : Nat) (ho : o < 7) : w.cell? ⟨b, o, none⟩ = xs[o]? := World.ownsRow.cellAt h o (by omega)
theorem T7.set {w : World} {b : Nat} {xs : List Value} (h : T7 w b xs) (o : Nat) (u : Value) : T7 (w.setCell ⟨b, o, none⟩ u) b (xs.set o u) := (World.ownsRow.stored h o u).1
theorem T7.frozen {w : World} {b : Nat} {xs : List Value} (h : T7 w b xs) (o : Nat) : w.frozen? ⟨b, o, none⟩ = false := World.ownsRow.frozenAt h o
theorem T7.lt {w : World} {b : Nat} {xs : List Value} (h : T7 w b xs) : b < w.heap.size := (World.ownsRow.lt h b rfl).2
theorem t7_same {w w' : World} {b : Nat} {xs : List Value} (h : T7 w b xs) (hh : w'.heap[b]? = w.heap[b]?) : T7 w' b xs := row_same h (fun g hg => by
  have e : b = g := by simpa [Value.ownBlock] using hg
  subst e; exact hh)
structure LSt (w : World) (dcl : Array Value) (B : Nat) (xs : List Value) (wr : World) : Prop where
  bel : Below w.heap.size w wr
  n0 : wr.heap[w.heap.size]? = some (.cells dcl 36 (0, 0))
  n1 : T7 wr B xs
  lo : w.heap.size < B
section
variable {w : World} {dcl : Array Value} {B : Nat} {xs : List Value} {wr w' : World}
theorem LSt.sz (h : LSt w dcl B xs wr) : B < wr.heap.size := h.n1.lt
theorem LSt.keep (h : LSt w dcl B xs wr) (hb : Below wr.heap.size wr w') : LSt w dcl B xs w' := by
  have hs := h.sz
  have hl := h.lo
  exact ⟨h.bel.trans (hb.mono h.bel.size), (hb.block _ (by omega)).trans h.n0, t7_same h.n1 (hb.block _ hs), h.lo⟩
theorem LSt.grow {r : Option Nat} (h : LSt w dcl B xs wr) (hg : wr.grownBy w' r) (hr : ∀ b, r = some b → B < b) : LSt w dcl B xs w' := by
  have hs := h.sz
  have hl := h.lo
  exact ⟨h.bel.grown hg h.bel.size (fun k hk => by have := hr k hk; omega), (hg.block _ (by omega) (fun e => by have := hr _ e.symm; omega)).trans h.n0, t7_same h.n1 (hg.block _ hs (fun e => by have := hr _ e.symm; omega)), h.lo⟩
theorem LSt.set (h : LSt w dcl B xs wr) (o : Nat) (u : Value) : LSt w dcl B (xs.set o u) (wr.setCell ⟨B, o, none⟩ u) := by
  have hs := h.sz
  have hl := h.lo
  have hg := grown_set wr ⟨B, o, none⟩ u
  exact ⟨h.bel.grown hg h.bel.size (fun k hk => by have : B = k := Option.some.inj hk; omega), (hg.block _ (by omega) (fun e => by have : w.heap.size = B := Option.some.inj e; omega)).trans h.n0, h.n1.set o u, h.lo⟩
theorem LSt.row {e s n : Nat} {v : Value} {ys : List Value} (h : LSt w dcl B xs wr) (ho : wr.ownsRow (B + 1) e s v n ys) (hg : wr.grownBy w' v.ownBlock) : LSt w dcl B xs w' := h.grow hg (fun b hb => by have := (World.ownsRow.lt ho b hb).1; omega)
end
theorem cts_at (ps : List ByteArray) (s : ByteArray) (cs : List Ct) (j : Nat) (h : j < cs.length) : ctsB ps (takenN s cs j) (cs.drop j) = (plainB cs[j].t ps && (nameB cs[j].s && (!hasB (takenN s cs j) cs[j].s && ctsB ps (takenN s cs (j + 1)) (cs.drop (j + 1))))) := by
  rw [List.drop_eq_getElem_cons h, takenN_succ s cs j h]
  rfl
end Go.Proofs.YtpmpooekpeocdaaGreat
