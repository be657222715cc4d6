/- What the specification's l3LevelsIn answers at every node. -/
import Derived.Test.YtpmpooekpeocdaaGreatLoC
import Derived.Test.YtpmpooekpeocdaaGreatTQ
import Derived.LaidEqlPtr
import Derived.Deep.CutRange
import Derived.Test.YtpmpooekpeocdaaGreatTFTree
import Derived.Test.YtpmpooekpeocdaaGreatDcB
import Derived.Test.YtpmpooekpeocdaaGreatName
import Derived.Test.YtpmpooekpeocdaaGreatStrs
import Derived.Test.YtpmpooekpeocdaaGreatNames
namespace Go.Proofs.YtpmpooekpeocdaaGreat
open Go.ChangeShapes Go.WideShapes Go.ChangeAt Go.RowKit

/-- What is said of l3LevelsIn at a node. -/
def LevsIH (ts : List Td) (pt : Nat → Nat) (n : Nat) : Prop := ∀ (i : Nat) (w : World) (Q : Nat → Prop) (v : Value) (out : List ByteArray) (base : Nat), i < n → i < ts.length → Forest Q w pt ts ts.length → base ≤ w.heap.size → OwnS base w v out → out.length + (levF ts n (i : Int)).length ≤ 1000000 →
  Calls Tryz.prog 107 #[.pointer (some ⟨pt i, 0, none⟩), v] w fun e w' => ∃ v', e = .returned v' ∧ OwnS base w' v' (levsZ out (levF ts n (i : Int))) ∧ Below w.heap.size w w'
theorem LevsIH.at {ts : List Td} {pt : Nat → Nat} {n : Nat} (h : LevsIH ts pt n) (c : Int) (c0 : 0 ≤ c) (w : World) (Q : Nat → Prop) (v : Value) (out : List ByteArray) (base : Nat) (hn : c < n) (hc : c < ts.length) (F : Forest Q w pt ts ts.length) (hbase : base ≤ w.heap.size) (ho : OwnS base w v out) (hl : out.length + (levF ts n c).length ≤ 1000000) :
    Calls Tryz.prog 107 #[.pointer (some ⟨pt c.toNat, 0, none⟩), v] w fun e w' => ∃ v', e = .returned v' ∧ OwnS base w' v' (levsZ out (levF ts n c)) ∧ Below w.heap.size w w' := by
  have e : ((c.toNat : Nat) : Int) = c := Int.toNat_of_nonneg c0
  have h2 := h c.toNat w Q v out base (by omega) (by omega) F hbase ho (by rw [e]; exact hl)
  rw [e] at h2
  exact h2
theorem flatS_take {α : Type} (f : α → List ByteArray) (ks : List α) (q : Nat) (h : q < ks.length) : (ks.take (q + 1)).flatMap f = (ks.take q).flatMap f ++ f ks[q] := by
  rw [List.take_succ_eq_append_getElem h, List.flatMap_append]; simp
theorem flatS_len {α : Type} (f : α → List ByteArray) (ks : List α) (q : Nat) (h : q < ks.length) : ((ks.take q).flatMap f).length + (f ks[q]).length ≤ (ks.flatMap f).length := by
  have h1 := flatS_take f ks q h
  have h2 : ks.flatMap f = (ks.take (q + 1)).flatMap f ++ (ks.drop (q + 1)).flatMap f := by rw [← List.flatMap_append, List.take_append_drop]
  rw [h2, List.length_append, h1, List.length_append]; omega

set_option maxRecDepth 20000 in
set_option maxHeartbeats 8000000 in
theorem l3Levs_step {ts : List Td} {pt : Nat → Nat} (ht : termB ts = true) (n : Nat) (IH : Hid (LevsIH ts pt n)) : LevsIH ts pt (n + 1) := by
  intro i w Q v out base hin hi F hbase ho hl
  have T := tiledI ht (i : Int) (by omega) (by omega)
  have HF := hide F
  obtain ⟨lv, kv, tn, pr, lr⟩ := F i hi hi
  have hF : levF ts (n + 1) (i : Int) = lvN ts[i] ++ ts[i].kids.flatMap (levF ts n) := by rw [levF, tdI_at hi]
  have HK : Hid (∀ c ∈ ts[i].kids, 0 ≤ c ∧ c < (i : Int)) := by have h := T.kin; rw [tdI_at hi] at h; exact h
  clear T F
  generalize hx : ts[i] = x at *
  generalize zI (Zt ts) (i : Int) = z at *
  obtain ⟨A, hA⟩ : ∃ A, A = pt i := ⟨_, rfl⟩
  rw [← hA] at tn ⊢
  clear hA hx
  rw [hF] at hl ⊢
  clear hF
  rw [List.length_append] at hl
  have hAl := (tn.lt A rfl).2
  have a4 : w.cell? ⟨A, 4, none⟩ = some lv := by rw [tn.cellAt 4 (by omega)]; rfl
  have a5 : w.cell? ⟨A, 5, none⟩ = some kv := by rw [tn.cellAt 5 (by omega)]; rfl
  have HO := hide ho
  have HBS := hide hbase
  clear hbase
  obtain ⟨va, vc, rfl⟩ := row_form ho
  clear ho
  obtain ⟨ps, us, p1, p2, p3, p4⟩ := lr
  obtain ⟨la, lc, rfl, hll, hlm, hlc⟩ := p2
  rw [p1] at a4 hll
  obtain ⟨ka, kc, rfl, hkl, hkm, hkc⟩ := pr
  rw [List.length_map] at hkl
  rw [List.length_map] at a5
  have HLC : Hid (0 < x.lv.length → ∃ b off, la = some ⟨b, off, none⟩ ∧ ∀ j (h : j < ps.length), w.cell? ⟨b, off + j, none⟩ = some (ptrV ps[j])) := fun h => by
    obtain ⟨b, off, e, _, h2⟩ := hlc (by omega); exact ⟨b, off, e, h2⟩
  have HNM : Hid (∀ (wr : World), Below w.heap.size w wr → ∀ q (h : q < x.lv.length) (h2 : q < ps.length) (nm : List ByteArray), nm = namesOf x.lv[q] → Calls Tryz.prog 119 #[.pointer (some ⟨ps[q], 0, none⟩), .slice (some ⟨wr.heap.size, 0, none⟩) 0 0] (wr.alloc (.cells #[] 9)) fun e w' => ∃ v', e = .returned v' ∧ w'.ownsRow wr.heap.size 9 1 v' nm.length (nm.map Value.string) ∧ Below wr.heap.size (wr.alloc (.cells #[] 9)) w') := by
    intro wr hb q h h2 nm hnm
    have hu : q < us.length := by have := p4.1; omega
    have hot := p4.2 q h hu
    have hfit := p3.2 _ (List.getElem_mem hu)
    unfold fitsB at hfit
    simp only [decide_eq_true_eq] at hfit
    have htr := ((p3.1.keep hb).2 q h2 hu)
    have h3 := l1Names_any us[q] ps[q] (wr.alloc (.cells #[] 9)) (.slice (some ⟨wr.heap.size, 0, none⟩) 0 0) [] wr.heap.size (htr.keep (bel_alloc (Below.refl _ _) _)) (World.ownsRow_lit (base := wr.heap.size) (e := 9) (size := 1) wr #[] 0 (Nat.le_refl _) (by unfold maxLen; omega) rfl) (by simp) (by have := hfit.1; simp; omega)
    rw [hot.2.2.1, ← hnm] at h3
    exact h3
  have HP1 := hide p1
  have HKC := hide hkc
  have HL := hide hl
  unfold maxLen at hkm hlm
  clear hlc hl tn hkc p3 p4
  have HE0 : Hid (lvN x = x.lv.flatMap namesOf) := rfl
  go_enter Tryz.func107, Tryz.ntmps107
  go_wp2_with fail
  go_loopw [1, 5] (fun o ii wr => ∃ (q c : Nat) (a : Option Addr) (m : List ByteArray), q ≤ x.lv.length ∧ ii = .int .i64 q ∧ o = .slice a m.length c ∧ Hid (m = levsZ out ((x.lv.take q).flatMap namesOf)) ∧ Hid (OwnS base wr (.slice a m.length c) m) ∧ Hid (Below w.heap.size w wr)) (fun _ ii _ => x.lv.length - (intOf ii).toNat)
  case atStart => exact ⟨0, vc, va, out, by omega, rfl, rfl, rfl, HO, Below.refl _ _⟩
  case round =>
    obtain ⟨q, c, a, m, hq, rfl, rfl, HM, HI, HB⟩ := hrel
    have hAr : A < wr.heap.size := Nat.lt_of_lt_of_le hAl HB.out.size
    have b4 : wr.cell? ⟨A, 4, none⟩ = some (.slice la x.lv.length lc) := keep_cell HB.out a4
    by_cases hlt : q < x.lv.length
    · have hlt' : (q : Int) < x.lv.length := by omega
      have hqp : q < ps.length := by have := HP1.out; omega
      have HQ1 := hide (show q + 1 ≤ x.lv.length from hlt)
      obtain ⟨b1, o1, rfl, c1⟩ := HLC.out (by omega)
      have k1 := c1 q hqp
      simp only [ptrV] at k1
      have m1 : wr.cell? ⟨b1, o1 + q, none⟩ = some (.pointer (some ⟨ps[q], 0, none⟩)) := keep_cell HB.out k1
      obtain ⟨nm, hnm⟩ : ∃ nm, nm = namesOf x.lv[q] := ⟨_, rfl⟩
      have HC := hide (HNM.out wr HB.out q hlt hqp nm hnm)
      have HNX : Hid (levsZ m nm = levsZ out ((x.lv.take (q + 1)).flatMap namesOf)) := by show _ = _; rw [flatS_take namesOf x.lv q hlt, levsZ_append, HM.out, hnm]; rfl
      have hml : m.length + nm.length ≤ 1000000 := by
        have h1 := levsZ_len ((x.lv.take q).flatMap namesOf) out
        have h2 := flatS_len namesOf x.lv q hlt
        have h3 := HL.out
        rw [HE0.out] at h3
        rw [HM.out, hnm]; omega
      clear hnm c1 k1 HM
      generalize ps[q] = P1 at *
      go_wp2_with (go_at_call 119; refine HC.out.mono ?_; rintro e w3 ⟨v3, rfl, H1, H2⟩)
      have hb3 : Below wr.heap.size wr w3 := (bel_alloc (Below.refl wr.heap.size wr) _).trans H2
      have HB3 := hide (bel_trans HB.out hb3)
      have HI3 := hide (HI.out.keep hb3)
      have HS3 := hide (row_strs H1)
      obtain ⟨a3, c3, rfl⟩ := row_form H1
      clear H1 H2 hb3 HC m1 b4 HI HB
      go_wp2_with fail
      go_loopw [1, 7] (fun o ii wr2 => ∃ (j c2 : Nat) (a2 : Option Addr) (m2 : List ByteArray), j ≤ nm.length ∧ ii = .int .i64 j ∧ o = .slice a2 m2.length c2 ∧ Hid (m2 = levsZ m (nm.take j)) ∧ Hid (OwnS base wr2 (.slice a2 m2.length c2) m2) ∧ Hid (Below w3.heap.size w3 wr2)) (fun _ ii _ => nm.length - (intOf ii).toNat)
      case atStart => exact ⟨0, c, a, m, by omega, rfl, rfl, rfl, HI3, Below.refl _ _⟩
      case round =>
        rename World => W2
        obtain ⟨j, c2, a2, m2, hj, rfl, rfl, HM2, HI2, HB2⟩ := hrel
        by_cases hjl : j < nm.length
        · have hjl' : (j : Int) < nm.length := by omega
          obtain ⟨_, _, e4, h41, h42, h43⟩ := HS3.out.keep HB2.out
          injection e4 with e41 e42 e43
          subst e41 e43
          obtain ⟨b5, o5, rfl, h44⟩ := h43 (by omega)
          have k5 := h44 j hjl
          have HM3 : Hid (insS nm[j] m2 = levsZ m (nm.take (j + 1))) := by show _ = _; rw [List.take_succ_eq_append_getElem hjl, levsZ_snoc, HM2.out]
          have hm2 : m2.length ≤ 1000000 := by
            have h1 := levsZ_len (nm.take j) m
            rw [HM2.out]
            simp at h1 ⊢
            omega
          have HC2 := hide (l3Insert_any _ m2 nm[j] W2 base (Nat.le_trans HBS.out (Nat.le_trans HB3.out.size HB2.out.size)) HI2.out hm2)
          obtain ⟨m4, hm4⟩ : ∃ m4, m4 = insS nm[j] m2 := ⟨_, rfl⟩
          rw [← hm4] at HC2 HM3
          have HQ2 := hide (show j + 1 ≤ nm.length from hjl)
          clear h43 h44 hm4 HM2 h41 h42
          generalize nm[j] = y at *
          go_wp2_with (go_at_call 144; refine HC2.out.mono ?_; rintro e w5 ⟨v5, rfl, H1, H2⟩)
          have HB5 := hide (bel_trans HB2.out H2)
          have HI5 := hide H1
          obtain ⟨a5', c5', rfl⟩ := row_form H1
          clear H1 H2
          go_wp2_with fail
          go_roundw
          case rel => exact ⟨j + 1, c5', a5', m4, HQ2.out, by go_num, rfl, HM3, HI5, HB5⟩
          case measure => have := HQ2.out; simp [intOf]; omega
        · have hjl' : ¬ (j : Int) < nm.length := by omega
          have HE : Hid (m2 = levsZ out ((x.lv.take (q + 1)).flatMap namesOf)) := by show _ = _; rw [HM2.out, List.take_of_length_le (by omega)]; exact HNX.out
          have HB6 := hide (bel_trans HB3.out HB2.out)
          go_wp2_with fail
          go_roundw
          case rel => exact ⟨q + 1, c2, a2, m2, HQ1.out, by go_num, rfl, HE, HI2, HB6⟩
          case measure => have := HQ1.out; simp [intOf]; omega
    · have hlt' : ¬ (q : Int) < x.lv.length := by omega
      have HE : Hid (m = levsZ out (lvN x)) := by show _ = _; rw [HM.out, List.take_of_length_le (by omega)]; rfl
      clear HM
      go_wp2_with fail
      go_loopw [1, 8] (fun o ii wr2 => ∃ (q c : Nat) (a : Option Addr) (m2 : List ByteArray), q ≤ x.kids.length ∧ ii = .int .i64 q ∧ o = .slice a m2.length c ∧ Hid (m2 = levsZ m ((x.kids.take q).flatMap (levF ts n))) ∧ Hid (OwnS base wr2 (.slice a m2.length c) m2) ∧ Hid (Below w.heap.size w wr2)) (fun _ ii _ => x.kids.length - (intOf ii).toNat)
      case atStart => exact ⟨0, c, a, m, by omega, rfl, rfl, rfl, HI, HB⟩
      case round =>
        clear HI b4 hAr HB
        rename World => W2
        obtain ⟨q2, c2, a2, m2, hq2, rfl, rfl, HM2, HI2, HB2⟩ := hrel
        have hAr : A < W2.heap.size := Nat.lt_of_lt_of_le hAl HB2.out.size
        have b5 : W2.cell? ⟨A, 5, none⟩ = some (.slice ka x.kids.length kc) := keep_cell HB2.out a5
        by_cases hlk : q2 < x.kids.length
        · have hlk' : (q2 : Int) < x.kids.length := by omega
          have HQ1 := hide (show q2 + 1 ≤ x.kids.length from hlk)
          obtain ⟨b1, o1, rfl, _, c1⟩ := HKC.out (by simpa using (show 0 < x.kids.length by omega))
          have k1 := c1 q2 (by simpa using hlk)
          simp only [ptrV, List.getElem_map] at k1
          have r1 := HK.out x.kids[q2] (List.getElem_mem hlk)
          have m1 : W2.cell? ⟨b1, o1 + q2, none⟩ = some (.pointer (some ⟨pt x.kids[q2].toNat, 0, none⟩)) := keep_cell HB2.out k1
          have HLm : m2.length ≤ out.length + (lvN x).length + ((x.kids.take q2).flatMap (levF ts n)).length := by
            have h1 := levsZ_len ((x.kids.take q2).flatMap (levF ts n)) m
            have h2 := levsZ_len (lvN x) out
            rw [HM2.out]
            rw [← HE.out] at h2
            omega
          have HC : Hid (Calls Tryz.prog 107 #[.pointer (some ⟨pt x.kids[q2].toNat, 0, none⟩), .slice a2 m2.length c2] W2 fun e w' => ∃ v', e = .returned v' ∧ OwnS base w' v' (levsZ m2 (levF ts n x.kids[q2])) ∧ Below W2.heap.size W2 w') :=
            IH.out.at x.kids[q2] r1.1 W2 Q _ m2 base (by omega) (by omega) (HF.out.to (Carry.below HB2.out)) (Nat.le_trans HBS.out HB2.out.size) HI2.out (by have := flatS_len (levF ts n) x.kids q2 hlk; have := HL.out; omega)
          have HNX : Hid (levsZ m2 (levF ts n x.kids[q2]) = levsZ m ((x.kids.take (q2 + 1)).flatMap (levF ts n))) := by show _ = _; rw [flatS_take (levF ts n) x.kids q2 hlk, levsZ_append, HM2.out]; rfl
          generalize levsZ m2 (levF ts n x.kids[q2]) = m4 at *
          generalize pt x.kids[q2].toNat = P1 at *
          clear c1 k1 r1 HLm HM2
          go_wp2_with (go_at_call 107; refine HC.out.mono ?_; rintro e w3 ⟨v3, rfl, H1, H2⟩)
          have HB3 := hide (bel_trans HB2.out H2)
          have HI3 := hide H1
          obtain ⟨a3, c3, rfl⟩ := row_form H1
          go_wp2_with fail
          go_roundw
          case rel => exact ⟨q2 + 1, c3, a3, m4, HQ1.out, by go_num, rfl, HNX, HI3, HB3⟩
          case measure => have := HQ1.out; simp [intOf]; omega
        · have hlk' : ¬ (q2 : Int) < x.kids.length := by omega
          have HE2 : Hid (m2 = levsZ out (lvN x ++ x.kids.flatMap (levF ts n))) := by show _ = _; rw [HM2.out, List.take_of_length_le (by omega), levsZ_append, HE.out]
          go_wp2_with fail
          go_ret
          refine ⟨_, rfl, ?_, HB2.out⟩
          rw [← HE2.out]; exact HI2.out
theorem l3Levs_all {ts : List Td} {pt : Nat → Nat} (ht : termB ts = true) : ∀ n, LevsIH ts pt n
  | 0 => fun i w Q v out base h => by omega
  | n + 1 => l3Levs_step ht n (hide (l3Levs_all ht n))
end Go.Proofs.YtpmpooekpeocdaaGreat

/- What the specification's LevelsOf answers. -/
namespace Go.Proofs.YtpmpooekpeocdaaGreat
open Go.ChangeShapes Go.WideShapes Go.ChangeAt Go.RowKit

theorem lo_fields_all {ts : List Td} (h : termB ts = true) (i : Nat) (hi : i < ts.length) : tfieldsB nameB ts[i] = true := by
  simp only [termB, termB', Bool.and_eq_true] at h
  cases hf : tfieldsB nameB ts[i] with
  | true => rfl
  | false =>
    exfalso
    have hn : trun (tfieldsB nameB) ts ts.length = none := by
      cases hr : trun (tfieldsB nameB) ts i with
      | none => exact trun_none _ ts i ts.length (by omega) hr
      | some st =>
        have h1 := trun_succ (tfieldsB nameB) ts i hi st hr
        rw [tstep_none (tfieldsB nameB) (.inr (.inr (.inl hf)))] at h1
        exact trun_none _ ts (i + 1) ts.length (by omega) h1
    rw [hn] at h
    simp at h
theorem lvl_bounds6 {ns : List Nd} (h : lvlB ns = true) : ns.length ≤ 64 ∧ (namesOf ns).length ≤ 6 := by
  unfold lvlB at h
  simp only [Bool.and_eq_true, decide_eq_true_eq] at h
  refine ⟨h.1.2, ?_⟩
  have h2 := h.2
  split at h2
  · simp only [Bool.and_eq_true, decide_eq_true_eq] at h2; exact h2.2
  · cases h2
theorem lo_lv_small {ts : List Td} (ht : termB ts = true) : ∀ td ∈ ts, td.lv.length ≤ 6 ∧ ∀ l ∈ td.lv, l.length ≤ 64 ∧ (namesOf l).length ≤ 6 := by
  intro td htd
  obtain ⟨i, hi, rfl⟩ := List.mem_iff_getElem.1 htd
  have h := lo_fields_all ht i hi
  unfold tfieldsB tlevB at h
  simp only [Bool.and_eq_true, decide_eq_true_eq, List.all_eq_true] at h
  refine ⟨?_, fun l hl => lvl_bounds6 (h.2.2 l hl)⟩
  have h2 := h.2.1.2
  have h3 : mostL ts[i].k ≤ 6 := by
    unfold mostL
    split
    · omega
    · split <;> omega
  omega
theorem flatS_le {α : Type} (f : α → List ByteArray) (c : Nat) : ∀ (l : List α), (∀ x ∈ l, (f x).length ≤ c) → (l.flatMap f).length ≤ c * l.length
  | [], _ => by simp
  | x :: l, h => by
    have h1 := h x (by simp)
    have h2 := flatS_le f c l (fun y hy => h y (by simp [hy]))
    rw [List.flatMap_cons, List.length_append, List.length_cons, Nat.mul_add]
    omega
theorem lvN_le {ts : List Td} (ht : termB ts = true) : ∀ td ∈ ts, (lvN td).length ≤ 36 := by
  intro td htd
  obtain ⟨h1, h2⟩ := lo_lv_small ht td htd
  have h3 := flatS_le namesOf 6 td.lv (fun l hl => (h2 l hl).2)
  unfold lvN
  omega
/-- The names in a term's levels, rising. -/
def levsT (ts : List Td) : List ByteArray := levsZ [] (levF ts ts.length ((ts.length : Int) - 1))
theorem levsT_rising (ts : List Td) : RisingS (levsT ts) := levsZ_rising _ _ (by simp [RisingS])
theorem levsT_mem {ts : List Td} (ht : termB ts = true) (x : ByteArray) : x ∈ levsT ts ↔ x ∈ levsN ts := by
  unfold levsT
  rw [levsZ_mem, levs_root ht]; simp
def levsA (ts : List Td) : List ByteArray := if termB ts = true then levsT ts else []

end Go.Proofs.YtpmpooekpeocdaaGreat

/- When a declaration is shaped, as plain functions; what the program's declParamsOk, ctorNamesOk, hasValue and declFieldsOk answer. -/
namespace Go.Proofs.YtpmpooekpeocdaaGreat
open Go.ChangeShapes Go.WideShapes Go.ChangeAt Go.RowKit

/-- The first i names may be parameters: each is one, and none of those in front. -/
def parsB (ps : List ByteArray) : Nat → Bool
  | 0 => true
  | i + 1 => parsB ps i && (paramB (ps.getD i ⟨#[]⟩) && !hasB (ps.take i) (ps.getD i ⟨#[]⟩))
def paramsB (ps : List ByteArray) : Bool := decide (ps.length ≤ 6) && parsB ps ps.length
theorem parsB_no {ps : List ByteArray} {i : Nat} (h : parsB ps i = false) : ∀ j, i ≤ j → parsB ps j = false
  | 0, hj => by have : i = 0 := by omega
                subst this; exact h
  | j + 1, hj => by
    by_cases e : i = j + 1
    · subst e; exact h
    · simp [parsB, parsB_no h j (by omega)]
/-- The constructors' names. -/
def ctnB (taken : List ByteArray) : List Ct → Bool
  | [] => true
  | c :: cs => nameB c.s && !hasB taken c.s && ctnB (taken ++ [c.s]) cs
def recName (s : ByteArray) : ByteArray := s ++ ⟨#[46, 114, 101, 99]⟩
def hasVal (k : Int) : Bool := decide (k = 2) || decide (k = 3)
def quotS : ByteArray := ⟨#[81, 117, 111, 116]⟩
/-- All of a declaration but the terms that it has. -/
def fieldsD (d : Dc) : Bool :=
  nameB d.s && decide (d.s.size ≤ 36) && paramsB d.ps && (hasVal d.k || decide (d.v.length = 0)) &&
    (if d.k = 4 then decide (0 ≤ d.f) && decide (d.f ≤ 50) && decide (d.cs.length ≤ 20) && ctnB [d.s, recName d.s] d.cs
     else if d.k = 1 ∨ d.k = 2 ∨ d.k = 3 then decide (d.f = 0) && decide (d.cs.length = 0)
     else if d.k = 5 then decide (d.f = 0) && decide (d.cs.length = 0) && decide (d.s = quotS) && decide (d.ps.length = 0) && decide (d.t.length = 0)
     else false)
theorem StrsAt.cut {w : World} {a : Option Addr} {n cap : Nat} {ss : List ByteArray} (h : StrsAt w (.slice a n cap) ss) (i : Nat) (hi : i ≤ ss.length) : StrsAt w (.slice a i cap) (ss.take i) := by
  obtain ⟨a', c', h1, h2, h3, h4⟩ := h
  injection h1 with e1 e2 e3
  subst e1 e3
  have hl : (ss.take i).length = i := by rw [List.length_take]; omega
  refine ⟨a, cap, by rw [hl], by omega, h3, fun h0 => ?_⟩
  obtain ⟨b, off, h5, h6⟩ := h4 (by omega)
  exact ⟨b, off, h5, fun j hj => by rw [h6 j (by omega)]; simp⟩

theorem hasValue_any (k : Int) (w : World) : Calls Tryz.prog 81 #[.int .i64 k] w fun e w' => e = .returned (.bool (hasVal k)) ∧ w' = w := by
  unfold hasVal
  by_cases h2 : k = 2
  · subst h2
    go_enter Tryz.func81, Tryz.ntmps81
    go_wp2_with fail
    go_ret
    exact ⟨rfl, rfl⟩
  · have d2 : (k == 2) = false := beq_eq_false_iff_ne.2 h2
    have e2 : decide (k = 2) = false := by simp [h2]
    rw [e2]
    by_cases h3 : k = 3
    · subst h3
      clear h2 e2
      go_enter Tryz.func81, Tryz.ntmps81
      go_wp2_with fail
      go_ret
      exact ⟨rfl, rfl⟩
    · have d3 : (k == 3) = false := beq_eq_false_iff_ne.2 h3
      have e3 : decide (k = 3) = false := by simp [h3]
      rw [e3]
      clear h2 h3 e2 e3
      go_enter Tryz.func81, Tryz.ntmps81
      go_wp2_with fail
      go_ret
      exact ⟨rfl, rfl⟩
set_option maxRecDepth 20000 in
set_option maxHeartbeats 2000000 in
theorem declParamsOk_any (v : Value) (ps : List ByteArray) (w : World) (hv : StrsAt w v ps) (hz : ∀ s ∈ ps, s.size ≤ maxLen) :
    Calls Tryz.prog 111 #[v] w fun e w' => e = .returned (.bool (paramsB ps)) ∧ w' = w := by
  have HV := hide hv
  have HZ := hide hz
  obtain ⟨a, cap, rfl, hlc, hcm, hc⟩ := hv
  have HC := hide hc
  unfold maxLen at hcm
  obtain ⟨A, hA⟩ : ∃ A, A = paramsB ps := ⟨_, rfl⟩
  rw [← hA]
  have HA := hide hA
  clear hA hc hz
  by_cases h6 : 6 < ps.length
  · have d6 : decide ((6 : Int) < (ps.length : Int)) = true := by simp; omega
    have hA : A = false := by rw [HA.out]; unfold paramsB; rw [show decide (ps.length ≤ 6) = false by simp; omega]; rfl
    subst hA
    go_enter Tryz.func111, Tryz.ntmps111
    go_wp2_with fail
    go_ret
    exact ⟨rfl, rfl⟩
  have d6 : decide ((6 : Int) < (ps.length : Int)) = false := by simp; omega
  have HA2 : Hid (A = parsB ps ps.length) := by show _ = _; rw [HA.out]; unfold paramsB; rw [show decide (ps.length ≤ 6) = true by simp; omega]; rfl
  go_enter Tryz.func111, Tryz.ntmps111
  go_wp2_with fail
  go_loop [10] (fun i => ∃ k : Nat, k ≤ ps.length ∧ i = .int .i64 k ∧ Hid (parsB ps k = true)) (fun i => ps.length - (intOf i).toNat)
  case atStart => exact ⟨0, by omega, rfl, rfl⟩
  case round =>
    obtain ⟨k, hk, rfl, HP⟩ := hrel
    by_cases hlt : k < ps.length
    · have hlt' : (k : Int) < ps.length := by omega
      obtain ⟨b, off, rfl, hcc⟩ := HC.out (by omega)
      have c1 := hcc k hlt
      have HG : Hid (ps.getD k ⟨#[]⟩ = ps[k]) := by show _ = _; simp [List.getD, hlt]
      have HS := hide (HZ.out ps[k] (List.getElem_mem hlt))
      have HX := hide (HV.out.cut k (by omega))
      have HN : Hid (parsB ps (k + 1) = (paramB ps[k] && !hasB (ps.take k) ps[k])) := by show _ = _; simp only [parsB]; rw [HP.out, HG.out]; rfl
      clear hcc
      generalize ps[k] = s at *
      have HC1 := hide (paramNameOk_any s w HS.out)
      have HC2 := hide (contains_any _ (ps.take k) s w HX.out)
      have hsl : (k : Int) ≤ (cap : Int) := by omega
      cases hp : paramB s with
      | false =>
        rw [hp] at HC1
        have hA : A = false := by rw [HA2.out]; exact parsB_no (by rw [HN.out, hp]; rfl) _ hlt
        subst hA
        go_wp2_with (first
          | (go_at_call 149; refine HC1.out.mono ?_; rintro e w1 ⟨rfl, rfl⟩)
          | fail)
        go_ret
        exact ⟨rfl, rfl⟩
      | true =>
        rw [hp] at HC1
        cases hq : hasB (ps.take k) s with
        | true =>
          rw [hq] at HC2
          have hA : A = false := by rw [HA2.out]; exact parsB_no (by rw [HN.out, hp, hq]; rfl) _ hlt
          subst hA
          go_wp2_with (first
            | (go_at_call 149; refine HC1.out.mono ?_; rintro e w1 ⟨rfl, rfl⟩)
            | (go_at_call 117; refine HC2.out.mono ?_; rintro e w1 ⟨rfl, rfl⟩)
            | fail)
          go_ret
          exact ⟨rfl, rfl⟩
        | false =>
          rw [hq] at HC2
          have HP1 : Hid (parsB ps (k + 1) = true) := by show _ = _; rw [HN.out, hp, hq]; rfl
          go_wp2_with (first
            | (go_at_call 149; refine HC1.out.mono ?_; rintro e w1 ⟨rfl, rfl⟩)
            | (go_at_call 117; refine HC2.out.mono ?_; rintro e w1 ⟨rfl, rfl⟩)
            | fail)
          go_round
          case rel => exact ⟨k + 1, by omega, by go_num, HP1⟩
          case measure => simp [intOf]; omega
    · have hA : A = true := by rw [HA2.out]; have e : k = ps.length := by omega
                               rw [← e]; exact HP.out
      subst hA
      go_wp2_with fail
      go_ret
      exact ⟨rfl, rfl⟩
end Go.Proofs.YtpmpooekpeocdaaGreat
