/- The program's writing of a node in brackets. -/
import Derived.Test.YtcagcfhnbphggaaGreatDoorTtK
namespace Go.Proofs.YtcagcfhnbphggaaGreatDoor
open Go.ChangeShapes Go.WideShapes Go.ChangeAt Go.RowKit

/-- What the writing at a place is known to do. -/
def WrAt (w0 : World) (nv : Value) (ts : List Td) (f c : Nat) : Prop := ∀ (B wb : Nat) (bs : List UInt8) (w : World), IsW B wb nv bs w → w0.heap.size ≤ wb → Below w0.heap.size w0 w → bs.length ≤ 600000 →
  Calls Tryz.prog 35 #[.pointer (some ⟨wb, 0, none⟩), .int .i64 (c : Int)] w fun e w' => (∃ v, e = .returned v) ∧ IsW B wb nv (wrT ts f c bs) w' ∧ FrW wb w w'
set_option maxRecDepth 20000 in
set_option maxHeartbeats 8000000 in
theorem brk_any {w0 : World} {nv : Value} {ts : List Td} (C : Ctx w0 nv ts) (td : Td) (hn : NodeOk td) (hk : 4 ≤ td.k ∧ td.k ≤ 8) (f : Nat) (hf : f ≤ 20001) (ih : ∀ c ∈ td.kids, 0 ≤ c ∧ WrAt w0 nv ts f c.toNat) (B wb : Nat) (bs : List UInt8) (lvv kdv : Value) (w : World) (h : IsW B wb nv bs w) (h0 : w0.heap.size ≤ wb) (hb0 : Below w0.heap.size w0 w) (hkd : IntsAt w0 kdv td.kids) (hlv : LevsAt w0 lvv td.lv) (hl : bs.length ≤ 400000) :
    Calls Tryz.prog 57 #[.pointer (some ⟨wb, 0, none⟩), .agg #[.int .i64 td.k, .int .i64 td.n, .int .i64 td.m, .string td.s, lvv, kdv]] w fun e w' => (∃ v, e = .returned v) ∧ IsW B wb nv (kidsT (wrT ts f) td.kids td.kids.length (bs ++ headT td) ++ [93]) w' ∧ FrW wb w w' := by
  have hwl := h.wlt
  have HB0 := hide hb0
  have HKD := hide hkd
  have HPA := hide (part_all hn hk (wrT ts f) bs)
  have HPL := hide (fun i => partT_len hn (K := 440000 + 5 * f) (fun p out => wrT_len C.ok f p out) (partsK td.k) (bs ++ 91 :: signT td.k) i)
  obtain ⟨la, lc, rfl, _, _, _⟩ := hlv
  obtain ⟨ka, kc, rfl, _, _, _⟩ := hkd
  obtain ⟨o, ho⟩ : ∃ o, o = Obj.cells #[.int .i64 td.k, .int .i64 td.n, .int .i64 td.m, .string td.s, .slice la td.lv.length lc, .slice ka td.kids.length kc] 58 := ⟨_, rfl⟩
  have HW1 : Hid (IsW B wb nv bs (w.alloc o)) := h.keep (bel_alloc (Below.refl _ _) _)
  have HE1 : Hid (Else wb o w.heap.size (w.alloc o)) := else_new hwl (fun c fz e => by rw [ho] at e; cases e)
  have HF1 : Hid (FrW wb w (w.alloc o)) := .keep (bel_alloc (Below.refl _ _) _) (by omega)
  have HO := hide ho
  have HFO := hide (form_any td.k hk)
  clear h hb0
  go_enter Tryz.func57, Tryz.ntmps57
  go_upto_region 1 with fail
  rw [← ho]
  clear ho
  generalize hw1 : w.alloc o = w1 at *
  have hz1 : w.heap.size < w1.heap.size := by rw [← hw1]; simp
  clear hw1
  have HT1 := hide (C.tab.keep (HB0.out.trans (HF1.out.bel.mono h0)))
  have e0 : w1.cell? ⟨w.heap.size, 0, none⟩ = some (.int .i64 td.k) := by rw [cell_of_row _ _ _ _ _ _ (by rw [HE1.out.1, HO.out])]; rfl
  go_upto_region 2 with (first
    | (go_at_call 75; refine (HFO.out _ HT1.out).mono ?_; rintro e w2 ⟨rfl, hb2⟩)
    | fail)
  have HB2 := hide hb2
  have hz2 := hb2.size
  obtain ⟨o2, ho2⟩ : ∃ o2, o2 = Obj.cells #[.int .i64 td.k, .string (bA (signT td.k)), .string (bA (partsK td.k))] 113 := ⟨_, rfl⟩
  rw [← ho2]
  have HO2 := hide ho2
  have HW3 : Hid (IsW B wb nv bs (w2.alloc o2)) := (HW1.out.keep hb2).keep (bel_alloc (Below.refl _ _) _)
  have HE3 : Hid (Else wb o w.heap.size (w2.alloc o2)) := (HE1.out.keep hb2).keep (bel_alloc (Below.refl _ _) _)
  have HG3 : Hid (Else wb o2 w2.heap.size (w2.alloc o2)) := else_new (by omega) (fun c fz e => by rw [ho2] at e; cases e)
  have HF3 : Hid (FrW wb w (w2.alloc o2)) := (HF1.out.trans (.keep hb2 (by omega))).trans (.keep (bel_alloc (Below.refl _ _) _) (by omega))
  clear hb2 ho2 HW1 HE1 HF1 HB2 HT1 e0
  generalize hw3 : w2.alloc o2 = w3 at *
  have hz3 : w2.heap.size < w3.heap.size := by rw [← hw3]; simp
  clear hw3
  have e5 : w3.cell? ⟨w.heap.size, 5, none⟩ = some (.slice ka td.kids.length kc) := by rw [cell_of_row _ _ _ _ _ _ (by rw [HE3.out.1, HO.out])]; rfl
  have s1 : w3.cell? ⟨w2.heap.size, 1, none⟩ = some (.string (bA (signT td.k))) := by rw [cell_of_row _ _ _ _ _ _ (by rw [HG3.out.1, HO2.out])]; rfl
  have hsl := signT_len td.k
  have HCT : Hid (catB [⟨#[91]⟩, bA (signT td.k)] = 91 :: signT td.k) := by
    show _ = _
    rw [cat2]
    simp [bA]
  go_upto_region 4 with (first
    | (go_at_call 53; refine (put_any B wb _ nv bs [⟨#[91]⟩, bA (signT td.k)] _ (HW3.out.keep (bel_alloc (Below.refl _ _) _)) (else_new HW3.out.wlt (fun c fz e => by cases e)) (by rw [HCT.out]; simp only [List.length_cons]; omega) (by simp)).mono ?_; rintro e w4 ⟨⟨v4, rfl⟩, hw4, hf4⟩)
    | fail)
  rw [HCT.out] at hw4
  have HW4 := hide hw4
  have hff := (FrW.keep (bel_alloc (Below.refl w3.heap.size w3) _) (Nat.le_of_lt HW3.out.wlt)).trans hf4
  have HF4 := hide (HF3.out.trans hff)
  have HE4 := hide (HE3.out.fr hff)
  have HG4 := hide (HG3.out.fr hff)
  clear hw4 hff hf4 HW3 HE3 HF3 HG3 e5 s1 HCT
  have s2 : w4.cell? ⟨w2.heap.size, 2, none⟩ = some (.string (bA (partsK td.k))) := by rw [cell_of_row _ _ _ _ _ _ (by rw [HG4.out.1, HO2.out])]; rfl
  go_wp2_with fail
  have HI4 : Hid (Else wb (.stringIter (bA (partsK td.k)) 0) w4.heap.size (w4.iter (bA (partsK td.k)) 0)) := else_new HW4.out.wlt (fun c fz e => by cases e)
  have HB4 : Hid (Below w4.heap.size w4 (w4.iter (bA (partsK td.k)) 0)) := bel_alloc (Below.refl _ _) _
  have hz4 : w.heap.size ≤ w4.heap.size := HF4.out.bel.size
  have hz42 : w2.heap.size < w4.heap.size := (Array.getElem?_eq_some_iff.1 HG4.out.1).1
  have hz41 : w.heap.size < w4.heap.size := (Array.getElem?_eq_some_iff.1 HE4.out.1).1
  have hwb4 : wb < w4.heap.size := HW4.out.wlt
  have hps : (bA (partsK td.k)).size = (partsK td.k).length := by simp [bA, ByteArray.size]
  go_loopw [5] (fun kv wr => ∃ i : Nat, i ≤ (partsK td.k).length ∧ Hid (IsW B wb nv (partT td (wrT ts f) (partsK td.k) i (bs ++ 91 :: signT td.k)) wr) ∧ Hid (FrW wb w wr) ∧ Hid (Else wb o w.heap.size wr) ∧ Hid (Else wb o2 w2.heap.size wr) ∧ Hid (Else wb (.stringIter (bA (partsK td.k)) i) w4.heap.size wr) ∧ Hid (IntsAt w0 kv (td.kids.drop (cntK (partsK td.k) i)))) (fun _ wr => (partsK td.k).length - wr.iterPos w4.heap.size)
  case atStart => exact ⟨0, by omega, HW4.out.keep HB4.out, HF4.out.trans (.keep HB4.out (Nat.le_of_lt hwb4)), HE4.out.keep HB4.out, HG4.out.keep HB4.out, HI4.out, by show IntsAt _ _ _; simpa [cntK] using HKD.out⟩
  case round =>
    clear HI4 HB4 HW4 HF4 HE4 HG4 s2
    obtain ⟨i, hi, HW, HF, HE, HG, HI, HK⟩ := hrel
    by_cases hlt : i < (partsK td.k).length
    · obtain ⟨q, hq⟩ : ∃ q, q = (partsK td.k)[i] := ⟨_, rfl⟩
      have hqc := partsK_in td.k q (by rw [hq]; exact List.getElem_mem hlt)
      obtain ⟨Z, hZ⟩ : ∃ Z : Int, Z = (q.toNat : Int) := ⟨_, rfl⟩
      have hnx : ∀ ty, (Instr.next (.pointer (some ⟨w4.heap.size, 0, none⟩)) true ty).run Tryz.prog wr = .ok (.tuple #[.bool true, .int .i64 i, .int .i32 Z]) (wr.iterAt w4.heap.size (bA (partsK td.k)) (i + 1)) := fun ty => by
        have hb : ((bA (partsK td.k))[i]'(by omega)) = q := by rw [hq]; rfl
        rw [hZ, ← hb]
        refine Lib.run_next_ascii_at wr w4.heap.size (bA (partsK td.k)) i ty HI.out.1 (by omega) ?_
        rw [hb]
        rcases hqc with rfl | rfl | rfl | rfl <;> decide
      have HQ := hide hq
      have HZ := hide hZ
      have HW5 := hide (HW.out.iter HI.out.1 (i + 1))
      have HF5 := hide (HF.out.iter hz4 (Nat.le_of_lt hwb4) (bA (partsK td.k)) (i + 1))
      have HE5 := hide (HE.out.iter (Nat.ne_of_lt hz41) (bA (partsK td.k)) (i + 1))
      have HG5 := hide (HG.out.iter (Nat.ne_of_lt hz42) (bA (partsK td.k)) (i + 1))
      have HI5 : Hid (Else wb (.stringIter (bA (partsK td.k)) (i + 1)) w4.heap.size (wr.iterAt w4.heap.size (bA (partsK td.k)) (i + 1))) := ⟨Lib.iterAt_heap _ _ _ _ _ HI.out.1, HI.out.2.1, fun c fz e => by cases e⟩
      have HPI := hide (HPL.out i)
      have HPS : Hid (partT td (wrT ts f) (partsK td.k) (i + 1) (bs ++ 91 :: signT td.k) = if q = 83 then partT td (wrT ts f) (partsK td.k) i (bs ++ 91 :: signT td.k) ++ (if 0 < i ∨ signT td.k ≠ [] then [32] else []) ++ td.s.data.toList
          else if q = 77 then partT td (wrT ts f) (partsK td.k) i (bs ++ 91 :: signT td.k) ++ (if 0 < i ∨ signT td.k ≠ [] then [32] else []) ++ dD td.m
          else if q = 78 then partT td (wrT ts f) (partsK td.k) i (bs ++ 91 :: signT td.k) ++ (if 0 < i ∨ signT td.k ≠ [] then [32] else []) ++ dD td.n
          else wrT ts f (td.kids.getD (cntK (partsK td.k) i) 0).toNat (partT td (wrT ts f) (partsK td.k) i (bs ++ 91 :: signT td.k) ++ (if 0 < i ∨ signT td.k ≠ [] then [32] else []))) := by
        show _ = _
        conv => lhs; unfold partT
        rw [show (partsK td.k).getD i 0 = q by rw [hq]; simp [List.getD, hlt]]
      have HCS : Hid (cntK (partsK td.k) (i + 1) = cntK (partsK td.k) i + if q = 107 then 1 else 0) := by
        show _ = _
        rw [cntK_succ hlt, ← hq]
      have HCL : Hid (cntK (partsK td.k) (i + 1) ≤ td.kids.length) := by
        show _ ≤ _
        rw [← cntK_all hn hk]
        exact cntK_le _
      clear hq hZ HW HF HE HG
      have hi5 : i ≤ 4 := by have := partsK_len td.k; omega
      generalize hP : partT td (wrT ts f) (partsK td.k) i (bs ++ 91 :: signT td.k) = P at *
      have hPl : P.length ≤ 540400 := by
        have h1 := HPI.out
        rw [List.length_append, List.length_cons] at h1
        omega
      clear HPI
      go_upto_region 7 with fail
      generalize hw5 : wr.iterAt w4.heap.size (bA (partsK td.k)) (i + 1) = w5 at *
      clear hw5 hnx
      have s1 : w5.cell? ⟨w2.heap.size, 1, none⟩ = some (.string (bA (signT td.k))) := by rw [cell_of_row _ _ _ _ _ _ (by rw [HG5.out.1, HO2.out])]; rfl
      go_cut [31] from 21 to 67 (fun s wx => ∃ b : Bool, s = .bool b ∧ (b = true ↔ (0 < i ∨ signT td.k ≠ [])) ∧ w5 = wx)
      case first =>
        by_cases hpi : 0 < i
        · have hpi' : (0 : Int) < (i : Int) := by omega
          have HP1 := hide hpi
          go_wp2_with fail
          go_meet
          exact ⟨true, rfl, by simp [HP1.out], rfl⟩
        · have hpi' : ¬ (0 : Int) < (i : Int) := by omega
          by_cases hsg : signT td.k = []
          · have hse : ((bA (signT td.k)).toList == ([] : List UInt8)) = true := by rw [ByteArray.toList_eq, hsg]; rfl
            have HSG := hide hsg
            clear hsg
            go_wp2_with fail
            go_meet
            exact ⟨false, rfl, by simp [hpi, HSG.out], rfl⟩
          · have hse : ((bA (signT td.k)).toList == ([] : List UInt8)) = false := by
              rw [ByteArray.toList_eq]
              simp only [bA]
              cases hc : signT td.k with
              | nil => exact absurd hc hsg
              | cons a l => rfl
            have HSG := hide hsg
            clear hsg
            go_wp2_with fail
            go_meet
            exact ⟨true, rfl, by simp [HSG.out], rfl⟩
      case rest =>
        obtain ⟨b, rfl, hbc, rfl⟩ := hcut
        clear s1
        have HPX : Hid ((if 0 < i ∨ signT td.k ≠ [] then [(32 : UInt8)] else []).length ≤ 1) := by show _ ≤ _; split <;> simp
        go_upto_if 31 with fail
        go_cut [] from 21 to 67 (fun wx => Hid (IsW B wb nv (P ++ (if 0 < i ∨ signT td.k ≠ [] then [32] else [])) wx) ∧ Hid (FrW wb w wx) ∧ Hid (Else wb o w.heap.size wx) ∧ Hid (Else wb o2 w2.heap.size wx) ∧ Hid (Else wb (.stringIter (bA (partsK td.k)) (i + 1)) w4.heap.size wx))
        case first =>
          by_cases hc : 0 < i ∨ signT td.k ≠ []
          · have hcd : b = true := hbc.2 hc
            subst hcd
            have HC := hide hc
            clear hc hbc
            go_wp2_with (first
              | (go_at_call 53; refine (put_any B wb _ nv _ [⟨#[32]⟩] _ (HW5.out.keep (bel_alloc (Below.refl _ _) _)) (else_new HW5.out.wlt (fun c fz e => by cases e)) (by rw [cat1]; show _ + 1 ≤ _; omega) (by simp)).mono ?_; rintro e w6 ⟨⟨v6, rfl⟩, hw6, hf6⟩; rw [cat1] at hw6; have HW6 := hide hw6; have HF6 : Hid (FrW wb w5 w6) := (FrW.keep (bel_alloc (Below.refl _ _) _) (Nat.le_of_lt HW5.out.wlt)).trans hf6; clear hw6 hf6)
              | fail)
            go_meet
            rw [if_pos HC.out]
            exact ⟨HW6, HF5.out.trans HF6.out, HE5.out.fr HF6.out, HG5.out.fr HF6.out, HI5.out.fr HF6.out⟩
          · have hcd : b = false := by
              cases b with
              | false => rfl
              | true => exact absurd (hbc.1 rfl) hc
            subst hcd
            have HC := hide hc
            clear hc hbc
            go_wp2_with fail
            go_meet
            rw [if_neg HC.out, List.append_nil]
            exact ⟨HW5, HF5, HE5, HG5, HI5⟩
        case rest =>
          obtain ⟨HW6, HF6, HE6, HG6, HI6⟩ := hcut
          clear HW5 HF5 HE5 HG5 HI5
          have HPT := hide (C.tab.keep (HB0.out.trans (HF6.out.bel.mono h0)))
          have hd1 := dD_len (n := td.m) (by have := hn.mode; omega)
          have hd2 := dD_len (n := td.n) (by have := hn.num; omega)
          have hd3 : td.s.data.toList.length ≤ 40 := by rw [Array.length_toList]; exact hn.str
          rcases hqc with hqv | hqv | hqv | hqv
          · have hz : Z = 83 := by rw [HZ.out, hqv]; decide
            subst hz
            have HQV := hide hqv
            have e3 : wc.cell? ⟨w.heap.size, 3, none⟩ = some (.string td.s) := by rw [cell_of_row _ _ _ _ _ _ (by rw [HE6.out.1, HO.out])]; rfl
            have HCA : Hid (catB [td.s] = td.s.data.toList) := cat1 _
            clear hqv hd1 hd2
            go_wp2_with (first
              | (go_at_call 53; refine (put_any B wb _ nv _ [td.s] _ (HW6.out.keep (bel_alloc (Below.refl _ _) _)) (else_new HW6.out.wlt (fun c fz e => by cases e)) (by rw [HCA.out, List.length_append]; have := HPX.out; omega) (by simp)).mono ?_; rintro e w8 ⟨⟨v8, rfl⟩, hw8, hf8⟩; rw [HCA.out] at hw8; have HW8 := hide hw8; have HF8 : Hid (FrW wb wc w8) := (FrW.keep (bel_alloc (Below.refl _ _) _) (Nat.le_of_lt HW6.out.wlt)).trans hf8; clear hw8 hf8)
              | fail)
            go_roundw
            case rel =>
              refine ⟨i + 1, by omega, ?_, HF6.out.trans HF8.out, HE6.out.fr HF8.out, HG6.out.fr HF8.out, HI6.out.fr HF8.out, ?_⟩
              · show IsW _ _ _ _ _
                rw [HPS.out, if_pos HQV.out]
                exact HW8.out
              · show IntsAt _ _ _
                rw [HCS.out, if_neg (by rw [HQV.out]; decide)]
                exact HK.out
            case measure =>
              simp only [World.iterPos, HI.out.1, (HI6.out.fr HF8.out).1]
              omega
          · have hz : Z = 77 := by rw [HZ.out, hqv]; decide
            subst hz
            have HQV := hide hqv
            have e3 : wc.cell? ⟨w.heap.size, 2, none⟩ = some (.int .i64 td.m) := by rw [cell_of_row _ _ _ _ _ _ (by rw [HE6.out.1, HO.out])]; rfl
            have HCA : Hid (catB [bA (dD td.m)] = dD td.m) := by
              show _ = _
              rw [cat1]
              simp [bA]
            have HIT : Hid (∀ W, Tabs W → Calls Tryz.prog 54 #[.int .i64 td.m] W fun e w' => e = .returned (.string (bA (dD td.m))) ∧ Below W.heap.size W w') := by
              show ∀ W, _
              intro W hT
              have h1 := itoaN_any td.m.toNat (by have := hn.mode; omega) W hT.tab
              rw [Int.toNat_of_nonneg hn.mode.1] at h1
              exact h1
            clear hqv
            go_wp2_with (first
              | (go_at_call 54; refine (HIT.out _ HPT.out).mono ?_; rintro e w7 ⟨rfl, hb7⟩; have HB7 := hide hb7; have HW7 := hide (HW6.out.keep hb7); clear hb7)
              | (go_at_call 53; refine (put_any B wb _ nv _ [bA (dD td.m)] _ (HW7.out.keep (bel_alloc (Below.refl _ _) _)) (else_new HW7.out.wlt (fun c fz e => by cases e)) (by rw [HCA.out, List.length_append]; have := HPX.out; omega) (by simp)).mono ?_; rintro e w8 ⟨⟨v8, rfl⟩, hw8, hf8⟩; rw [HCA.out] at hw8; have HW8 := hide hw8; have HF8 : Hid (FrW wb wc w8) := ((FrW.keep HB7.out (Nat.le_of_lt HW6.out.wlt)).trans (.keep (bel_alloc (Below.refl _ _) _) (Nat.le_of_lt HW7.out.wlt))).trans hf8; clear hw8 hf8)
              | fail)
            go_roundw
            case rel =>
              refine ⟨i + 1, by omega, ?_, HF6.out.trans HF8.out, HE6.out.fr HF8.out, HG6.out.fr HF8.out, HI6.out.fr HF8.out, ?_⟩
              · show IsW _ _ _ _ _
                rw [HPS.out, if_neg (by rw [HQV.out]; decide), if_pos HQV.out]
                exact HW8.out
              · show IntsAt _ _ _
                rw [HCS.out, if_neg (by rw [HQV.out]; decide)]
                exact HK.out
            case measure =>
              simp only [World.iterPos, HI.out.1, (HI6.out.fr HF8.out).1]
              omega
          · have hz : Z = 78 := by rw [HZ.out, hqv]; decide
            subst hz
            have HQV := hide hqv
            have e3 : wc.cell? ⟨w.heap.size, 1, none⟩ = some (.int .i64 td.n) := by rw [cell_of_row _ _ _ _ _ _ (by rw [HE6.out.1, HO.out])]; rfl
            have HCA : Hid (catB [bA (dD td.n)] = dD td.n) := by
              show _ = _
              rw [cat1]
              simp [bA]
            have HIT : Hid (∀ W, Tabs W → Calls Tryz.prog 54 #[.int .i64 td.n] W fun e w' => e = .returned (.string (bA (dD td.n))) ∧ Below W.heap.size W w') := by
              show ∀ W, _
              intro W hT
              have h1 := itoaN_any td.n.toNat (by have := hn.num; omega) W hT.tab
              rw [Int.toNat_of_nonneg hn.num.1] at h1
              exact h1
            clear hqv
            go_wp2_with (first
              | (go_at_call 54; refine (HIT.out _ HPT.out).mono ?_; rintro e w7 ⟨rfl, hb7⟩; have HB7 := hide hb7; have HW7 := hide (HW6.out.keep hb7); clear hb7)
              | (go_at_call 53; refine (put_any B wb _ nv _ [bA (dD td.n)] _ (HW7.out.keep (bel_alloc (Below.refl _ _) _)) (else_new HW7.out.wlt (fun c fz e => by cases e)) (by rw [HCA.out, List.length_append]; have := HPX.out; omega) (by simp)).mono ?_; rintro e w8 ⟨⟨v8, rfl⟩, hw8, hf8⟩; rw [HCA.out] at hw8; have HW8 := hide hw8; have HF8 : Hid (FrW wb wc w8) := ((FrW.keep HB7.out (Nat.le_of_lt HW6.out.wlt)).trans (.keep (bel_alloc (Below.refl _ _) _) (Nat.le_of_lt HW7.out.wlt))).trans hf8; clear hw8 hf8)
              | fail)
            go_roundw
            case rel =>
              refine ⟨i + 1, by omega, ?_, HF6.out.trans HF8.out, HE6.out.fr HF8.out, HG6.out.fr HF8.out, HI6.out.fr HF8.out, ?_⟩
              · show IsW _ _ _ _ _
                rw [HPS.out, if_neg (by rw [HQV.out]; decide), if_neg (by rw [HQV.out]; decide), if_pos HQV.out]
                exact HW8.out
              · show IntsAt _ _ _
                rw [HCS.out, if_neg (by rw [HQV.out]; decide)]
                exact HK.out
            case measure =>
              simp only [World.iterPos, HI.out.1, (HI6.out.fr HF8.out).1]
              omega
          · have hz : Z = 107 := by rw [HZ.out, hqv]; decide
            subst hz
            have HQV := hide hqv
            have hcs := HCS.out
            rw [if_pos hqv] at hcs
            have hcl := HCL.out
            have hkl : (td.kids.drop (cntK (partsK td.k) i)).length = td.kids.length - cntK (partsK td.k) i := by simp
            obtain ⟨b2, off2, cap2, a3, c3, rfl, hcap, hcell, hk2, hsl2⟩ := slice_one HK.out (by omega)
            have hg0 : (td.kids.drop (cntK (partsK td.k) i)).getD 0 0 = td.kids.getD (cntK (partsK td.k) i) 0 := by simp [List.getD]
            rw [hg0] at hcell
            have hmem : td.kids.getD (cntK (partsK td.k) i) 0 ∈ td.kids := by
              rw [List.getD_eq_getElem?_getD, List.getElem?_eq_getElem (show cntK (partsK td.k) i < td.kids.length by omega)]
              exact List.getElem_mem _
            obtain ⟨hc0, hwr⟩ := ih _ hmem
            have HWR := hide hwr
            have HK3 : Hid (IntsAt w0 (.slice a3 ((td.kids.drop (cntK (partsK td.k) i)).length - 1) c3) (td.kids.drop (cntK (partsK td.k) (i + 1)))) := by
              show IntsAt _ _ _
              rw [hcs, ← List.drop_drop]
              exact hk2
            obtain ⟨cn, hcn⟩ : ∃ cn : Nat, td.kids.getD (cntK (partsK td.k) i) 0 = (cn : Int) := ⟨(td.kids.getD (cntK (partsK td.k) i) 0).toNat, by omega⟩
            rw [hcn] at hcell HWR HPS
            have HBC := hide (HB0.out.trans (HF6.out.bel.mono h0))
            have ck := keep_cell HBC.out hcell
            have hL0 : (0 : Int) < ((td.kids.drop (cntK (partsK td.k) i)).length : Int) := by omega
            have hL1 : 0 < (td.kids.drop (cntK (partsK td.k) i)).length := by omega
            generalize (td.kids.drop (cntK (partsK td.k) i)).length = L at *
            clear hqv hcs hcl hkl hcell hk2 hg0 hmem hwr hcn hcap
            go_wp2_with (first
              | (go_at_call 35; refine (HWR.out B wb _ _ HW6.out h0 HBC.out (by rw [List.length_append]; have := HPX.out; omega)).mono ?_; rintro e w8 ⟨⟨v8, rfl⟩, hw8, hf8⟩; have HW8 := hide hw8; have HF8 := hide hf8; clear hw8 hf8)
              | fail)
            go_roundw
            case rel =>
              refine ⟨i + 1, by omega, ?_, HF6.out.trans HF8.out, HE6.out.fr HF8.out, HG6.out.fr HF8.out, HI6.out.fr HF8.out, HK3⟩
              show IsW _ _ _ _ _
              rw [HPS.out, if_neg (by rw [HQV.out]; decide), if_neg (by rw [HQV.out]; decide), if_neg (by rw [HQV.out]; decide)]
              exact HW8.out
            case measure =>
              simp only [World.iterPos, HI.out.1, (HI6.out.fr HF8.out).1]
              omega
    · have hil : i = (partsK td.k).length := by omega
      subst hil
      have hnx : ∀ ty, (Instr.next (.pointer (some ⟨w4.heap.size, 0, none⟩)) true ty).run Tryz.prog wr = .ok (.tuple #[.bool false]) wr := fun ty => Lib.run_next_end_at wr w4.heap.size (bA (partsK td.k)) (partsK td.k).length ty HI.out.1 (by omega)
      have HPI := hide (HPL.out (partsK td.k).length)
      rw [HPA.out] at HW HPI
      have hPl : (kidsT (wrT ts f) td.kids td.kids.length (bs ++ headT td)).length ≤ 540400 := by
        have h1 := HPI.out
        have h2 := partsK_len td.k
        rw [List.length_append, List.length_cons] at h1
        omega
      go_wp2_with (first
        | (go_at_call 53; refine (put_any B wb _ nv _ [⟨#[93]⟩] _ (HW.out.keep (bel_alloc (Below.refl _ _) _)) (else_new HW.out.wlt (fun c fz e => by cases e)) (by rw [cat1]; show _ + 1 ≤ _; omega) (by simp)).mono ?_; rintro e w6 ⟨⟨v6, rfl⟩, hw6, hf6⟩; rw [cat1] at hw6; have HW6 := hide hw6; have HF6 : Hid (FrW wb wr w6) := (FrW.keep (bel_alloc (Below.refl _ _) _) (Nat.le_of_lt HW.out.wlt)).trans hf6; clear hw6 hf6)
        | fail)
      exact bodyPost_end (results_none Tryz.results57 _ _ _) rfl ⟨⟨_, rfl⟩, HW6.out, HF.out.trans HF6.out⟩
end Go.Proofs.YtcagcfhnbphggaaGreatDoor
