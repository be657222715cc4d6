/- What the specification's l3HolesIn answers at every node. -/
import Derived.Test.YtdbepifdmcjjpaaGreatHoC
namespace Go.Proofs.YtdbepifdmcjjpaaGreat
open Go.ChangeShapes Go.WideShapes Go.ChangeAt Go.RowKit

/-- What is said of l3HolesIn at a node. -/
def HolesIH (ts : List Td) (pt : Nat → Nat) (n : Nat) : Prop := ∀ (i : Nat) (w : World) (Q : Nat → Prop) (v : Value) (out : List Int) (base : Nat), i < n → i < ts.length → Forest Q w pt ts ts.length → base ≤ w.heap.size → OwnN base w v out → Rising out → out.length + (holesF ts n (i : Int)).length ≤ 1000000 →
  Calls Tryz.prog 25 #[.pointer (some ⟨pt i, 0, none⟩), v] w fun e w' => ∃ v', e = .returned v' ∧ OwnN base w' v' (holesZ out (holesF ts n (i : Int))) ∧ Below w.heap.size w w'
theorem HolesIH.at {ts : List Td} {pt : Nat → Nat} {n : Nat} (h : HolesIH ts pt n) (c : Int) (c0 : 0 ≤ c) (w : World) (Q : Nat → Prop) (v : Value) (out : List Int) (base : Nat) (hn : c < n) (hc : c < ts.length) (F : Forest Q w pt ts ts.length) (hbase : base ≤ w.heap.size) (ho : OwnN base w v out) (hr : Rising out) (hl : out.length + (holesF ts n c).length ≤ 1000000) :
    Calls Tryz.prog 25 #[.pointer (some ⟨pt c.toNat, 0, none⟩), v] w fun e w' => ∃ v', e = .returned v' ∧ OwnN base w' v' (holesZ out (holesF ts n c)) ∧ Below w.heap.size w w' := by
  have e : ((c.toNat : Nat) : Int) = c := Int.toNat_of_nonneg c0
  have h2 := h c.toNat w Q v out base (by omega) (by omega) F hbase ho hr (by rw [e]; exact hl)
  rw [e] at h2
  exact h2
theorem flat_take (f : Int → List Int) (ks : List Int) (q : Nat) (h : q < ks.length) : (ks.take (q + 1)).flatMap f = (ks.take q).flatMap f ++ f ks[q] := by
  rw [List.take_succ_eq_append_getElem h, List.flatMap_append]; simp
theorem holes_next (f : Int → List Int) (ks : List Int) (q : Nat) (h : q < ks.length) (out m : List Int) (hm : m = holesZ out ((ks.take q).flatMap f)) : holesZ m (f ks[q]) = holesZ out ((ks.take (q + 1)).flatMap f) := by
  rw [flat_take f ks q h, holesZ_append, hm]
theorem flat_len (f : Int → List Int) (ks : List Int) (q : Nat) (h : q < ks.length) : ((ks.take q).flatMap f).length + (f ks[q]).length ≤ (ks.flatMap f).length := by
  have h1 := flat_take f ks q h
  have h2 : ks.flatMap f = (ks.take (q + 1)).flatMap f ++ (ks.drop (q + 1)).flatMap f := by rw [← List.flatMap_append, List.take_append_drop]
  rw [h2, List.length_append, h1, List.length_append]; omega

set_option maxRecDepth 20000 in
set_option maxHeartbeats 4000000 in
theorem l3Holes_step {ts : List Td} {pt : Nat → Nat} (ht : termB ts = true) (n : Nat) (IH : Hid (HolesIH ts pt n)) : HolesIH ts pt (n + 1) := by
  intro i w Q v out base hin hi F hbase ho hr hl
  have T := tiledI ht (i : Int) (by omega) (by omega)
  have HF := hide F
  obtain ⟨lv, kv, tn, pr, lr⟩ := F i hi hi
  have hNo := holesF_none ht (n + 1) (i : Int) (by omega) (by omega) (by omega)
  have hF : holesF ts (n + 1) (i : Int) = if ts[i].k = 9 then [ts[i].n] else ts[i].kids.flatMap (holesF ts n) := by rw [holesF, tdI_at hi]
  have HK : Hid (∀ c ∈ ts[i].kids, 0 ≤ c ∧ c < (i : Int)) := by have h := T.kin; rw [tdI_at hi] at h; exact h
  clear T F
  generalize hx : ts[i] = x at *
  generalize zI (Zt ts) (i : Int) = z at *
  obtain ⟨A, hA⟩ : ∃ A, A = pt i := ⟨_, rfl⟩
  rw [← hA] at tn ⊢
  clear hA hx
  by_cases h9 : x.k = 9
  · rw [hF, if_pos h9] at hl ⊢
    cases hz : z.ho
    · rw [hF, if_pos h9] at hNo
      have := hNo hz
      simp at this
    · simp only [List.length_singleton] at hl
      exact l3Holes_leaf A x lv kv z out v w tn h9 hz base hbase ho hr (by omega)
  rw [hF, if_neg h9] at hNo
  rw [hF, if_neg h9] at hl ⊢
  clear hF
  have q9 : (x.k == 9) = false := by simp [h9]
  have hAl := (tn.lt A rfl).2
  have a0 : w.cell? ⟨A, 0, none⟩ = some (.int .i64 x.k) := by rw [tn.cellAt 0 (by omega)]; rfl
  have a8 : w.cell? ⟨A, 8, none⟩ = some (.bool z.ho) := by rw [tn.cellAt 8 (by omega)]; rfl
  have a5 : w.cell? ⟨A, 5, none⟩ = some kv := by rw [tn.cellAt 5 (by omega)]; rfl
  have HO := hide ho
  have HBS := hide hbase
  clear hbase
  obtain ⟨va, vc, rfl⟩ := row_form ho
  clear ho
  cases hz : z.ho
  · have HE := hide (hNo hz)
    rw [hz] at a8
    clear hNo hl h9 hz lr pr tn
    go_enter Tryz.func25, Tryz.ntmps25
    go_wp2_with fail
    go_ret
    refine ⟨_, rfl, ?_, Below.refl _ _⟩
    rw [HE.out]; exact HO.out
  rw [hz] at a8
  obtain ⟨ka, kc, rfl, hkl, hkm, hkc⟩ := pr
  rw [List.length_map] at hkl
  rw [List.length_map] at a5
  have HKC := hide hkc
  have HR := hide hr
  have HL := hide hl
  have H9 := hide h9
  unfold maxLen at hkm
  clear hNo hl h9 hz lr tn hkc hr
  go_enter Tryz.func25, Tryz.ntmps25
  go_wp2_with fail
  go_loopw [1, 7] (fun o ii wr => ∃ (q c : Nat) (a : Option Addr) (m : List Int), q ≤ x.kids.length ∧ ii = .int .i64 q ∧ o = .slice a m.length c ∧ Hid (m = holesZ out ((x.kids.take q).flatMap (holesF ts n))) ∧ Hid (OwnN base wr (.slice a m.length c) m) ∧ Hid (Below w.heap.size w wr)) (fun _ ii _ => x.kids.length - (intOf ii).toNat)
  case atStart => exact ⟨0, vc, va, out, by omega, rfl, rfl, rfl, HO, Below.refl _ _⟩
  case round =>
    obtain ⟨q, c, a, m, hq, rfl, rfl, HM, HI, HB⟩ := hrel
    have hAr : A < wr.heap.size := Nat.lt_of_lt_of_le hAl HB.out.size
    have b5 : wr.cell? ⟨A, 5, none⟩ = some (.slice ka x.kids.length kc) := keep_cell HB.out a5
    by_cases hlt : q < x.kids.length
    · have hlt' : (q : Int) < x.kids.length := by omega
      have HQ1 := hide (show q + 1 ≤ x.kids.length from hlt)
      obtain ⟨b1, o1, rfl, _, c1⟩ := HKC.out (by simpa using (show 0 < x.kids.length by omega))
      have k1 := c1 q (by simpa using hlt)
      simp only [ptrV, List.getElem_map] at k1
      have r1 := HK.out x.kids[q] (List.getElem_mem hlt)
      have m1 : wr.cell? ⟨b1, o1 + q, none⟩ = some (.pointer (some ⟨pt x.kids[q].toNat, 0, none⟩)) := keep_cell HB.out k1
      have HLm : m.length ≤ out.length + ((x.kids.take q).flatMap (holesF ts n)).length := by rw [HM.out]; exact holesZ_len _ _
      have HC : Hid (Calls Tryz.prog 25 #[.pointer (some ⟨pt x.kids[q].toNat, 0, none⟩), .slice a m.length c] wr fun e w' => ∃ v', e = .returned v' ∧ OwnN base w' v' (holesZ m (holesF ts n x.kids[q])) ∧ Below wr.heap.size wr w') :=
        IH.out.at x.kids[q] r1.1 wr Q _ m base (by omega) (by omega) (HF.out.to (Carry.below HB.out)) (Nat.le_trans HBS.out HB.out.size) HI.out (by rw [HM.out]; exact holesZ_rising _ _ HR.out) (by have := flat_len (holesF ts n) x.kids q hlt; have := HL.out; omega)
      have HNX : Hid (holesZ m (holesF ts n x.kids[q]) = holesZ out ((x.kids.take (q + 1)).flatMap (holesF ts n))) := holes_next (holesF ts n) x.kids q hlt out m HM.out
      generalize holesZ m (holesF ts n x.kids[q]) = m2 at *
      generalize pt x.kids[q].toNat = P1 at *
      clear c1 k1 r1 HLm HM
      go_wp2_with (go_at_call 25; refine HC.out.mono ?_; rintro e w3 ⟨v3, rfl, H1, H2⟩)
      have HB3 := hide (bel_trans HB.out H2)
      have HI3 := hide H1
      obtain ⟨a3, c3, rfl⟩ := row_form H1
      go_wp2_with fail
      go_roundw
      case rel => exact ⟨q + 1, c3, a3, m2, HQ1.out, by go_num, rfl, HNX, HI3, HB3⟩
      case measure => have := HQ1.out; simp [intOf]; omega
    · have hlt' : ¬ (q : Int) < x.kids.length := by omega
      have HE : Hid (m = holesZ out (x.kids.flatMap (holesF ts n))) := by show _ = _; rw [HM.out, List.take_of_length_le (by omega)]
      go_wp2_with fail
      go_ret
      refine ⟨_, rfl, ?_, HB.out⟩
      rw [← HE.out]; exact HI.out
theorem l3Holes_all {ts : List Td} {pt : Nat → Nat} (ht : termB ts = true) : ∀ n, HolesIH ts pt n
  | 0 => fun i w Q v out base h => by omega
  | n + 1 => l3Holes_step ht n (hide (l3Holes_all ht n))
end Go.Proofs.YtdbepifdmcjjpaaGreat

/- What the specification's HolesOf answers. -/
namespace Go.Proofs.YtdbepifdmcjjpaaGreat
open Go.ChangeShapes Go.WideShapes Go.ChangeAt Go.RowKit

/-- The holes of a valid term, rising. -/
def holesT (ts : List Td) : List Int := holesZ [] (holesF ts ts.length ((ts.length : Int) - 1))
theorem holesT_rising (ts : List Td) : Rising (holesT ts) := holesZ_rising _ _ (by simp [Rising])
theorem holesT_mem {ts : List Td} (ht : termB ts = true) (x : Int) : x ∈ holesT ts ↔ x ∈ holesN ts := by
  unfold holesT
  rw [holesZ_mem, holes_root ht]; simp
/-- What HolesOf answers, in a row of its own or an old one. -/
def HoOut (base : Nat) (ts : List Td) (e : Ending) (w' : World) : Prop :=
  ∃ v, e = .returned v ∧ ((termB ts = false ∧ OwnN base w' v []) ∨ (termB ts = true ∧ OwnN base w' v (holesT ts)))

set_option maxRecDepth 20000 in
set_option maxHeartbeats 4000000 in
theorem specHoles_any (v1 : Value) (ts : List Td) (w : World) (h1 : TNodesAt w v1 ts) (z1 : ∀ td ∈ ts, TLens td) (l1 : ∀ td ∈ ts, td.lv.length ≤ 1048576) :
    Calls Tryz.prog 7 #[.agg #[v1]] w fun e w' => HoOut w.heap.size ts e w' ∧ Below w.heap.size w w' := by
  have HN1 := hide h1
  obtain ⟨a1, cap1, rfl, _, _, _⟩ := h1
  obtain ⟨W, hW⟩ : ∃ W, W = w.alloc (.cells #[.slice a1 ts.length cap1] 30) := ⟨_, rfl⟩
  have HBW := hide (show Below w.heap.size w W by rw [hW]; exact bel_alloc (Below.refl _ _) _)
  have HT1 := hide (l3TreeF_any _ ts W (HN1.out.keep HBW.out) z1 l1)
  clear z1 l1
  go_enter Tryz.func7, Tryz.ntmps7
  go_wp2_with fail
  rw [← hW]
  clear hW
  refine HT1.out.mono ?_
  rintro e w1 ⟨hA, hb1⟩
  have HB1 := hide (bel_trans HBW.out hb1)
  clear HT1
  rcases hA with ⟨ht, rfl⟩ | ⟨ht, _, pa, Qa, rfl, hFa, hPa⟩
  · have HT := hide ht
    have HB2 := hide (bel_alloc HB1.out (.cells #[] 3))
    clear ht hb1
    go_wp2_with (go_at_call 24; refine (tnone_none _).mono ?_; rintro e w' ⟨rfl, hw⟩; have hw := hw.symm; subst hw)
    go_ret
    exact ⟨⟨_, rfl, .inl ⟨HT.out, World.ownsRow_lit (base := w.heap.size) (e := 3) (size := 1) w1 #[] 0 HB1.out.size (by unfold maxLen; omega) rfl⟩⟩, HB2.out⟩
  · have HT := hide ht
    have hp := term_pos ht
    have hlen : ts.length ≤ 20000 := by have ht2 := ht; unfold termB termB' at ht2; simp at ht2; exact ht2.1
    have HB2 := hide (bel_alloc (Below.refl w1.heap.size w1) (.cells #[] 3))
    have HC : Hid (Calls Tryz.prog 25 #[.pointer (some ⟨pa (ts.length - 1), 0, none⟩), .slice (some ⟨w1.heap.size, 0, none⟩) 0 0] (w1.alloc (.cells #[] 3)) fun e w' => ∃ v', e = .returned v' ∧ OwnN w.heap.size w' v' (holesT ts) ∧ Below (w1.alloc (.cells #[] 3)).heap.size (w1.alloc (.cells #[] 3)) w') := by
      have e1 : ((ts.length - 1 : Nat) : Int) = (ts.length : Int) - 1 := by omega
      have h := l3Holes_all (pt := pa) ht ts.length (ts.length - 1) (w1.alloc (.cells #[] 3)) Qa (.slice (some ⟨w1.heap.size, 0, none⟩) 0 0) [] w.heap.size (by omega) (by omega) (hFa.to (Carry.below HB2.out)) (Nat.le_trans HB1.out.size HB2.out.size) (World.ownsRow_lit (base := w.heap.size) (e := 3) (size := 1) w1 #[] 0 HB1.out.size (by unfold maxLen; omega) rfl) (by simp [Rising]) (by rw [e1]; have := holes_root_len ht; simp; omega)
      rw [e1] at h
      exact h
    clear ht hFa hPa hb1
    generalize pa (ts.length - 1) = PA at *
    go_wp2_with (first | (go_at_call 24; refine (tnone_some _ _).mono ?_; rintro e w' ⟨rfl, hw⟩; have hw := hw.symm; subst hw) | (go_at_call 25; refine HC.out.mono ?_; rintro e w3 ⟨v3, rfl, H1, H2⟩))
    have HB3 := hide (bel_trans (bel_trans HB1.out HB2.out) H2)
    have HI3 := hide H1
    obtain ⟨a3, c3, rfl⟩ := row_form H1
    go_wp2_with fail
    go_ret
    exact ⟨⟨_, rfl, .inr ⟨HT.out, HI3.out⟩⟩, HB3.out⟩
end Go.Proofs.YtdbepifdmcjjpaaGreat
