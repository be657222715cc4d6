/- FnSpine's walk. -/
import Derived.Test.YtbgibiongnhjoaaGreatTEq
import Derived.Test.YtbgibiongnhjoaaGreatSiC
import Derived.Test.YtbgibiongnhjoaaGreatApJ
import Derived.Deep.CutRange
import Derived.Test.YtbgibiongnhjoaaGreatTo
import Derived.Deep.Slices
import Derived.Deep.Strs
import Derived.Lib.SmallJoins
namespace Go.Proofs.YtbgibiongnhjoaaGreat
open Go.ChangeShapes Go.WideShapes Go.ChangeAt Go.RowKit

set_option maxRecDepth 20000 in
set_option maxHeartbeats 8000000 in
theorem fnSpine_walk (a : Option Addr) (bs : List UInt8) (cap : Nat) (w : World) (h : CodeAt w a bs) (hn : bs.length ≤ cap) (hc : cap ≤ maxLen) :
    Calls Tryz.prog 9 #[.slice a bs.length cap] w fun e w' => e = .returned (.bool true) ∧ Below w.heap.size w w' := by
  obtain ⟨ρ, hρ⟩ : ∃ ρ : Pl, ρ = ⟨bs.take 1000, 0⟩ := ⟨_, rfl⟩
  have HDR : Hid (∀ w2 : World, Below w.heap.size w w2 → Calls Tryz.prog 42 #[.slice a bs.length cap] w2 fun e w' => ∃ v, e = .returned (.agg #[v]) ∧ FrT w2.heap.size w' v (spT ρ) ∧ Below w2.heap.size w2 w' ∧ LvQ (spT ρ)) := fun w2 hb => by rw [hρ]; exact drawSpine_any a bs cap w2 (h.keep hb) hn hc
  obtain ⟨T, hT⟩ := tree_for (spT ρ)
  have HT := hide hT
  clear h hρ hT
  go_enter Tryz.func9, Tryz.ntmps9
  by_cases hbig : 1048576 < bs.length
  · have d1 : decide ((1048576 : Int) < (bs.length : Int)) = true := by simp; omega
    go_wp2_with fail
    go_ret
    exact ⟨rfl, Below.refl _ _⟩
  have d1 : decide ((1048576 : Int) < (bs.length : Int)) = false := by simp; omega
  go_wp2_with fail
  refine (HDR.out w (Below.refl _ _)).mono ?_
  rintro e w1 ⟨v1, rfl, hf1, hb1, hq⟩
  obtain ⟨a1, cap1, rfl⟩ := hf1.form
  have HSZ := hide (szt_spine hq)
  have HP : Hid (termB (spT ρ) = true → _) := fun hv => spine_parts (HT.out hv).1 hv (HT.out hv).2 hq
  have HTA : Hid (termB (spT ρ) = true → T.flat 0 = spT ρ ∧ T.all nodeP) := HT.out
  generalize spT ρ = ts at *
  have HN1 := hide hf1.at
  clear hf1 hq
  obtain ⟨W2, hW2⟩ : ∃ W2, W2 = w1.alloc (.cells #[.slice a1 ts.length cap1] 28) := ⟨_, rfl⟩
  have hb2 : Below w1.heap.size w1 W2 := by rw [hW2]; exact bel_alloc (Below.refl _ _) _
  have c2 : W2.cell? ⟨w1.heap.size, 0, none⟩ = some (.slice a1 ts.length cap1) := by rw [hW2]; simp [go_sem]
  have HN2 := hide (HN1.out.keep hb2)
  have HB2 := hide (bel_trans hb1 hb2)
  have hs1 := hb1.size
  have hs2 := hb2.size
  clear hb1 hb2
  go_upto_region 4 with fail
  rw [← hW2]
  clear hW2
  go_wp2_with fail
  refine (implSpine_any _ ts T W2 HN2.out (fun td hm => (HSZ.out td hm).1) (fun td hm => (HSZ.out td hm).2.1) (fun td hm => (HSZ.out td hm).2.2) HT.out).mono ?_
  rintro e w3 ⟨⟨vh, va, mid, rfl, hm1, hm2, hta, hth⟩, hb3⟩
  obtain ⟨ah, ch, rfl⟩ := hth.form
  obtain ⟨aa, ca, rfl⟩ := hta.form
  have HH3 := hide hth.nodes
  have HA3 := hide (TsG.terms (fun _ _ _ _ _ h => TmV.nodes h) hta)
  have HN3 := hide (HN2.out.keep hb3)
  have c3 := keep_cell hb3 c2
  have HB3 := hide (bel_trans HB2.out hb3)
  have hs3 := hb3.size
  clear hta hth hb3 hm1 hm2 c2
  obtain ⟨hd, hhd⟩ : ∃ hd, hd = (spinA ts T).1 := ⟨_, rfl⟩
  obtain ⟨ag, has⟩ : ∃ ag, ag = (spinA ts T).2 := ⟨_, rfl⟩
  rw [← hhd] at HH3 ⊢
  rw [← has] at HA3 ⊢
  have HHD := hide hhd
  have HAS := hide has
  clear hhd has
  obtain ⟨W4, hW4⟩ : ∃ W4, W4 = w3.alloc (.cells #[.slice ah hd.length ch] 28) := ⟨_, rfl⟩
  have hb4 : Below w3.heap.size w3 W4 := by rw [hW4]; exact bel_alloc (Below.refl _ _) _
  have c4 : W4.cell? ⟨w3.heap.size, 0, none⟩ = some (.slice ah hd.length ch) := by rw [hW4]; simp [go_sem]
  have HH4 := hide (HH3.out.keep hb4)
  have HA4 := hide (HA3.out.keep hb4)
  have HN4 := hide (HN3.out.keep hb4)
  have c5 := keep_cell hb4 c3
  have HB4 := hide (bel_trans HB3.out hb4)
  have hs4 := hb4.size
  clear hb4 c3 HH3 HA3 HN3 HB3 HN2 HB2
  go_upto_region 5 with fail
  rw [← hW4]
  clear hW4
  go_wp2_with fail
  refine (specTermOk_any _ ts W4 HN4.out (fun td hm => (HSZ.out td hm).1) (fun td hm => (HSZ.out td hm).2.1.1)).mono ?_
  rintro e w5 ⟨rfl, hb5⟩
  have HH5 := hide (HH4.out.keep hb5)
  have HA5 := hide (HA4.out.keep hb5)
  have c6 := keep_cell hb5 c4
  have HB5 := hide (bel_trans HB4.out hb5)
  have hs5 := hb5.size
  clear hb5 c4 c5 HH4 HA4 HN4 HB4
  cases hv : termB ts with
  | false =>
    have e1 : hd = [] := by rw [HHD.out, spinA, if_neg (by rw [hv]; decide)]
    have e2 : ag = [] := by rw [HAS.out, spinA, if_neg (by rw [hv]; decide)]
    subst e1
    subst e2
    go_wp2_with fail
    go_ret
    exact ⟨rfl, HB5.out⟩
  | true =>
    obtain ⟨p1, p2, p3, p4, p5, p6, p7, p8⟩ := HP.out hv
    obtain ⟨q1, q2⟩ := HTA.out hv
    have e1 : hd = (spineT T).1.flat 0 := by rw [HHD.out, spinA, if_pos hv]
    have e2 : ag = (spineT T).2.map (fun x => x.flat 0) := by rw [HAS.out, spinA, if_pos hv]
    rw [← e1] at p1 p3
    rw [← e2] at p2 p4
    have hag : ag.length ≤ 20000 := by rw [e2, List.length_map]; exact p5
    have hap : appA hd ag (spineT T).1 (spineT T).2 = (ts, 0) := by
      rw [appA, if_pos ⟨p1, p2⟩, p7, fit_self (all_mono node_var q2) p8]
      show (T.flat 0, (0 : Int)) = _
      rw [q1]
    have hTr : TreeFor hd (spineT T).1 := fun _ => ⟨e1.symm, (spD_all q2).1⟩
    have hTs : TreesFor ag (spineT T).2 := ⟨by rw [e2, List.length_map], fun i h1 h2 _ => ⟨by simp [e2], (spD_all q2).2 _ (List.getElem_mem h2)⟩⟩
    have HAP := hide (implApply_any _ _ hd ag (spineT T).1 (spineT T).2 w5 HH5.out HA5.out (fun td hm => (p3 td hm).1) (fun td hm => (p3 td hm).2.1) (fun td hm => (p3 td hm).2.2) (fun l hl td hm => (p4 l hl td hm).1) (fun l hl td hm => (p4 l hl td hm).2.1) (fun l hl td hm => (p4 l hl td hm).2.2) (by omega) hTr hTs)
    rw [hap] at HAP
    have hlast : hd = flatT (spineT T).1.kids 0 ++ [(spineT T).1.hd.td (rootsT (spineT T).1.kids 0)] := by rw [e1]; exact flat_kids _ 0
    obtain ⟨m, hm⟩ : ∃ m, hd.length = m + 1 := ⟨(flatT (spineT T).1.kids 0).length, by rw [hlast]; simp⟩
    have hm2 : m < hd.length := by omega
    have hkk : hd[m].k ≠ 4 := by
      have hx : hd[m]? = some ((spineT T).1.hd.td (rootsT (spineT T).1.kids 0)) := by
        have hml : m = (flatT (spineT T).1.kids 0).length := by rw [hlast] at hm; simp at hm; omega
        rw [hlast, hml]
        simp
      rw [List.getElem?_eq_getElem hm2] at hx
      rw [Option.some.inj hx]
      exact p6
    have hmle : m ≤ 20000 := by have := len_of p1; omega
    obtain ⟨a', cap', e5, hc1, hc2, hcell⟩ := HH5.out
    obtain ⟨b, off, e6, hnode⟩ := hcell (by omega)
    have e7 : ah = some ⟨b, off, none⟩ := by rw [← e6]; injection e5
    subst e7
    have cm : w5.cell? ⟨b, off + m * 6, none⟩ = some (.int .i64 hd[m].k) := (hnode m hm2).1
    generalize hd[m].k = kk at *
    have hk4 : (kk == 4) = false := beq_eq_false_iff_ne.2 hkk
    have lcm := lt_cell cm
    rw [hm] at c6 HAP ⊢
    have l6 := lt_cell c6
    have hne1 : (((m + 1 : Nat) : Int) == 0) = false := beq_eq_false_iff_ne.2 (by omega)
    have hne2 : ((m : Int) + 1 == 0) = false := beq_eq_false_iff_ne.2 (by omega)
    have hne3 : ¬ (m : Int) + 1 = 0 := by omega
    have hw1 : IntKind.i64.wrap (m : Int) = (m : Int) := wrap_nat m (by omega)
    have hw2 : IntKind.i64.wrap ((m : Int) + 1 - 1) = (m : Int) := by rw [show (m : Int) + 1 - 1 = (m : Int) by omega]; exact hw1
    have hml : (m : Int) < (m : Int) + 1 := by omega
    clear hnode hcell e5 hc1 hc2 hlast hTr hTs hap p1 p2 p3 p4 p5 p6 p7 p8 q1 q2 e1 e2 HHD HAS HP HTA hm hm2 hkk HH5 HA5
    go_upto_region 9 with fail
    go_wp2_with fail
    refine HAP.out.mono ?_
    rintro e w6 ⟨⟨v6, rfl, ht6⟩, hb6⟩
    obtain ⟨a6, ca6, rfl⟩ := ht6.form
    have HN6 := hide ht6.nodes
    have HB6 := hide (bel_trans HB5.out hb6)
    have hs6 := hb6.size
    clear ht6 hb6
    obtain ⟨W7, hW7⟩ : ∃ W7, W7 = w6.alloc (.cells #[.slice a6 ts.length ca6] 28) := ⟨_, rfl⟩
    have hb7 : Below w6.heap.size w6 W7 := by rw [hW7]; exact bel_alloc (Below.refl _ _) _
    have c7 : W7.cell? ⟨w6.heap.size, 0, none⟩ = some (.slice a6 ts.length ca6) := by rw [hW7]; simp [go_sem]
    have HN7 := hide (HN6.out.keep hb7)
    have HB7 := hide (bel_trans HB6.out hb7)
    have hs7 := hb7.size
    have l7 := lt_cell c7
    clear hb7
    go_upto_region 10 with fail
    rw [← hW7]
    clear hW7
    go_region_with (first
      | (go_at_call 42
         refine (HDR.out _ (by first | exact HB7.out | exact HB7.out.drew)).mono ?_
         rintro e w8 ⟨v8, rfl, hf8, hb8, _⟩
         have hb8' : Below W7.heap.size W7 w8 := by { first | exact hb8 | exact (Below.refl _ _).drew.trans hb8 }
         obtain ⟨a8, ca8, rfl⟩ := hf8.form
         have HM8 := hide hf8.at
         have HN8 := hide (HN7.out.keep hb8')
         have c8 := keep_cell hb8' c7
         have l8 := lt_cell c8
         have HB8 := hide (bel_trans HB7.out hb8')
         have hs8 := hb8'.size
         clear hf8 hb8 hb8')
      | (go_at_call 16
         refine (eqTerm_any _ _ ts _ HN8.out HM8.out).mono ?_
         rintro e w9 ⟨rfl, hb9⟩
         have HB9 := hide (bel_trans HB8.out hb9)
         clear hb9)
      | fail)
    all_goals (go_wp2_with fail; go_ret; exact ⟨rfl, by first | exact HB9.out | exact HB9.out.drew⟩)
end Go.Proofs.YtbgibiongnhjoaaGreat

/- How a level that comes in as an argument is read: whatever was read as one lies in memory as a row of nodes. -/
namespace Go.Proofs.YtbgibiongnhjoaaGreat
open Go.ChangeShapes Go.WideShapes Go.ChangeAt Go.RowKit Go.Deep

section
variable {H : Type} {enc : TypeId × Value → H} {W : World} {base : Nat} {held : Bool}

theorem addr_none {w : World} {a : Addr} {v : Value} (h : w.cell? (a.add 0) = some v) : ∃ b off, a = ⟨b, off, none⟩ := by
  obtain ⟨b, off, spot⟩ := a
  have hs := World.cell?_spot h
  simp [Addr.add] at hs
  exact ⟨b, off, by rw [hs]⟩
end
end Go.Proofs.YtbgibiongnhjoaaGreat
