/- What the store's measure answers: the node's size, how far its variables reach, whether it has holes or parameters, as the specification's l3Make has them. -/
import Derived.Test.YtpmpooekpeocdaaGreatStC
import Derived.Test.YtpmpooekpeocdaaGreatTMk
import Derived.Test.YtpmpooekpeocdaaGreatTMkW
import Derived.Test.YtpmpooekpeocdaaGreatLwH
import Derived.Deep.CutRange
import Derived.Deep.Upon
namespace Go.Proofs.YtpmpooekpeocdaaGreat
open Go.ChangeShapes Go.WideShapes Go.ChangeAt Go.RowKit

/-- A node's cells. -/
def tmL (q : Nk) (lv : Value) (z : Zs) (hp : Bool) : List Value := [.int .i64 q.k, .int .i64 q.n, .int .i64 q.m, .string q.s, .string q.sp, pv q.p0, pv q.p1, pv q.p2, lv, .int .i64 z.sz, .int .i64 z.lo, .bool z.ho, .bool hp]
/-- A node's block. -/
def NbAt (w : World) (b : Nat) (xs : List Value) : Prop := w.ownsRow 0 121 13 (.slice (some ⟨b, 0, none⟩) 1 1) 1 xs
theorem NbAt.keep {w w' : World} {b : Nat} {xs : List Value} (h : NbAt w b xs) (hb : Below w.heap.size w w') : NbAt w' b xs := row_keep hb h
theorem NbAt.lt {w : World} {b : Nat} {xs : List Value} (h : NbAt w b xs) : b < w.heap.size := (World.ownsRow.lt h b rfl).2
theorem NbAt.drew {w : World} {b : Nat} {xs : List Value} (h : NbAt w b xs) : NbAt w.drew b xs := h
theorem NbAt.frozen {w : World} {b : Nat} {xs : List Value} (h : NbAt w b xs) (o : Nat) : w.frozen? ⟨b, o, none⟩ = false := World.ownsRow.frozenAt h o
theorem NbAt.cell {w : World} {b : Nat} {xs : List Value} (h : NbAt w b xs) (o : Nat) (ho : o < 13) : w.cell? ⟨b, o, none⟩ = xs[o]? := World.ownsRow.cellAt h o (by omega)
theorem nb_set {w : World} {b : Nat} {xs : List Value} (h : NbAt w b xs) (o : Nat) (u : Value) : NbAt (w.setCell ⟨b, o, none⟩ u) b (xs.set o u) := (World.ownsRow.stored h o u).1
theorem grown_set (w : World) (p : Addr) (u : Value) : w.grownBy (w.setCell p u) (some p.block) :=
  ⟨rfl, rfl, rfl, by rw [size_set]; exact Nat.le_refl _, fun k _ hne => Below.heap_setCell w p u k (fun e => hne (by rw [e]))⟩
theorem grown_drew (w : World) (r : Option Nat) : w.grownBy w.drew r := (grown_of (Below.refl w.heap.size w).drew).but r
theorem grown_bel {w w1 w2 : World} {r : Option Nat} (h : w.grownBy w1 r) (hb : Below w1.heap.size w1 w2) : w.grownBy w2 r := h.trans ((grown_of hb).but r)
/-- A kid's block: what is kept of it. -/
def KzAt (w : World) (b : Nat) (z : Zs) (hp : Bool) : Prop := w.cell? ⟨b, 9, none⟩ = some (.int .i64 z.sz) ∧ w.cell? ⟨b, 10, none⟩ = some (.int .i64 z.lo) ∧ w.cell? ⟨b, 11, none⟩ = some (.bool z.ho) ∧ w.cell? ⟨b, 12, none⟩ = some (.bool hp)
theorem grown_cell {w w' : World} {r : Option Nat} (h : w.grownBy w' r) {b o : Nat} {v : Value} (hb : some b ≠ r) (hc : w.cell? ⟨b, o, none⟩ = some v) : w'.cell? ⟨b, o, none⟩ = some v := by
  rw [World.cell?_of_block (w := w) (a := ⟨b, o, none⟩) (h.block b (lt_cell hc) hb)]; exact hc
theorem KzAt.grown {w w' : World} {r : Option Nat} (h : w.grownBy w' r) {b : Nat} {z : Zs} {hp : Bool} (hb : some b ≠ r) (hz : KzAt w b z hp) : KzAt w' b z hp := by
  obtain ⟨a, c, d, e⟩ := hz
  exact ⟨grown_cell h hb a, grown_cell h hb c, grown_cell h hb d, grown_cell h hb e⟩
def Nk.kid (q : Nk) : Nat → Option Nat
  | 0 => q.p0
  | 1 => q.p1
  | 2 => q.p2
  | _ => none
theorem nb_kid {w : World} {b : Nat} {q : Nk} {lv : Value} {z : Zs} {hp : Bool} (h : NbAt w b (tmL q lv z hp)) (j : Nat) (hj : j < 3) : w.cell? ⟨b, 5 + j, none⟩ = some (pv (q.kid j)) := by
  rw [h.cell (5 + j) (by omega)]
  rcases (show j = 0 ∨ j = 1 ∨ j = 2 by omega) with rfl | rfl | rfl <;> rfl

/-- Whether some of the first kids has parameters. -/
def hpP (p0 : Bool) (hps : Nat → Bool) : Nat → Bool
  | 0 => p0
  | j + 1 => hpP p0 hps j || hps j

set_option maxRecDepth 20000 in
set_option maxHeartbeats 8000000 in
theorem measure_any (b : Nat) (q : Nk) (lv : Value) (ls : List (List Nd)) (zs : List Zs) (hps : Nat → Bool) (kb : Nat → Nat) (w : World) (h : NbAt w b (tmL q lv ⟨0, 0, false⟩ false)) (hlv : ∀ w', w.grownBy w' (some b) → LevsAt w' lv ls) (hl : ls.length ≤ 1048576) (hll : ∀ l ∈ ls, l.length ≤ 1048576)
    (hk : (zs.length : Int) = tkidsN q.k) (hk3 : zs.length ≤ 3) (hkid : ∀ j, j < zs.length → q.kid j = some (kb j)) (hne : ∀ j, j < zs.length → kb j ≠ b) (hz : ∀ j (h : j < zs.length), KzAt w (kb j) zs[j] (hps j)) (hok : ∀ z ∈ zs, ZOk z ∧ z.sz ≤ 20001) (hn : q.k = 1 → 0 ≤ q.n ∧ q.n ≤ 20000) :
    Calls Tryz.prog 186 #[.pointer (some ⟨b, 0, none⟩)] w fun e w' => e = .returned (.tuple #[]) ∧ NbAt w' b (tmL q lv (zmk q.k q.n zs) (hpP (parL ls) hps zs.length)) ∧ w.grownBy w' (some b) := by
  have HLO := hide (loP_bounds q.k q.n zs (fun z hz => (hok z hz).1) hn)
  have HOK := hide hok
  have HKID := hide hkid
  have HNE := hide hne
  have HZ := hide hz
  have HK := hide hk
  have HN := hide hn
  have hbl := h.lt
  have c0 : w.cell? ⟨b, 0, none⟩ = some (.int .i64 q.k) := by rw [h.cell 0 (by omega)]; rfl
  have c1 : w.cell? ⟨b, 1, none⟩ = some (.int .i64 q.n) := by rw [h.cell 1 (by omega)]; rfl
  have c8 : w.cell? ⟨b, 8, none⟩ = some lv := by rw [h.cell 8 (by omega)]; rfl
  have c9 : w.cell? ⟨b, 9, none⟩ = some (.int .i64 0) := by rw [h.cell 9 (by omega)]; rfl
  have c10 : w.cell? ⟨b, 10, none⟩ = some (.int .i64 0) := by rw [h.cell 10 (by omega)]; rfl
  have c11 : w.cell? ⟨b, 11, none⟩ = some (.bool false) := by rw [h.cell 11 (by omega)]; rfl
  have c12 : w.cell? ⟨b, 12, none⟩ = some (.bool false) := by rw [h.cell 12 (by omega)]; rfl
  have fz := h.frozen
  obtain ⟨W1, hW1⟩ : ∃ W1, W1 = (w.setCell ⟨b, 9, none⟩ (.int .i64 1)).setCell ⟨b, 11, none⟩ (.bool (q.k == 9)) := ⟨_, rfl⟩
  have H1 : NbAt W1 b (tmL q lv ⟨1, 0, q.k == 9⟩ false) := by rw [hW1]; exact nb_set (nb_set h 9 (.int .i64 1)) 11 (.bool (q.k == 9))
  have G1 : w.grownBy W1 (some b) := by rw [hW1]; exact (grown_set w ⟨b, 9, none⟩ _).trans (grown_set _ ⟨b, 11, none⟩ _)
  have HC := hide (conL_any lv ls W1 (hlv W1 G1) hl hll)
  have HN1 := hide H1
  have HG1 := hide G1
  obtain ⟨la, lc, rfl, _, _, _⟩ := hlv W1 G1
  clear h hok hkid hne hz hk hn hll H1 G1 hlv
  go_enter Tryz.func186, Tryz.ntmps186
  go_upto_region 2 with fail
  rw [← hW1]
  clear hW1 c0 c1 c8 c9 c10 c11 c12 fz
  have c8 : W1.cell? ⟨b, 8, none⟩ = some (.slice la ls.length lc) := by rw [HN1.out.cell 8 (by omega)]; rfl
  have hb1 := HN1.out.lt
  go_wp2_with fail
  refine HC.out.mono ?_
  rintro e w2 ⟨rfl, hb2⟩
  have HN2 := hide (HN1.out.keep hb2)
  have HG2 := hide (grown_bel HG1.out hb2)
  clear hb2 c8 HN1 HG1 HC hb1
  obtain ⟨W3, hW3⟩ : ∃ W3, W3 = w2.setCell ⟨b, 12, none⟩ (.bool (parL ls)) := ⟨_, rfl⟩
  have HN3 : Hid (NbAt W3 b (tmL q (.slice la ls.length lc) ⟨1, 0, q.k == 9⟩ (parL ls))) := by show NbAt _ _ _; rw [hW3]; exact nb_set HN2.out 12 (.bool (parL ls))
  have HG3 : Hid (w.grownBy W3 (some b)) := by show World.grownBy _ _ _; rw [hW3]; exact HG2.out.trans (grown_set w2 ⟨b, 12, none⟩ _)
  have d12 : w2.cell? ⟨b, 12, none⟩ = some (.bool false) := by rw [HN2.out.cell 12 (by omega)]; rfl
  have f12 := HN2.out.frozen 12
  have hb2 := HN2.out.lt
  go_upto_region 3 with fail
  rw [← hW3]
  clear hW3 d12 f12 HN2 HG2 hb2
  have d0 : W3.cell? ⟨b, 0, none⟩ = some (.int .i64 q.k) := by rw [HN3.out.cell 0 (by omega)]; rfl
  have hb3 := HN3.out.lt
  by_cases h1 : q.k = 1
  · have q1 : (q.k == 1) = true := by simp [h1]
    have hz0 : zs.length = 0 := by have := HK.out; rw [h1] at this; have h2 : tkidsN 1 = 0 := by decide
                                   omega
    have HZ0 := hide (List.eq_nil_of_length_eq_zero hz0)
    obtain ⟨hn0, hn1⟩ := HN.out h1
    have d1 : W3.cell? ⟨b, 1, none⟩ = some (.int .i64 q.n) := by rw [HN3.out.cell 1 (by omega)]; rfl
    have d10 : W3.cell? ⟨b, 10, none⟩ = some (.int .i64 0) := by rw [HN3.out.cell 10 (by omega)]; rfl
    have f10 := HN3.out.frozen 10
    obtain ⟨W4, hW4⟩ : ∃ W4, W4 = W3.setCell ⟨b, 10, none⟩ (.int .i64 (q.n + 1)) := ⟨_, rfl⟩
    have HN4 : Hid (NbAt W4 b (tmL q (.slice la ls.length lc) ⟨1, q.n + 1, q.k == 9⟩ (parL ls))) := by show NbAt _ _ _; rw [hW4]; exact nb_set HN3.out 10 (.int .i64 (q.n + 1))
    have HG4 : Hid (w.grownBy W4 (some b)) := by show World.grownBy _ _ _; rw [hW4]; exact HG3.out.trans (grown_set W3 ⟨b, 10, none⟩ _)
    have HE : Hid (zmk q.k q.n zs = ⟨1, q.n + 1, q.k == 9⟩ ∧ hpP (parL ls) hps zs.length = parL ls) := by
      rw [HZ0.out]
      exact ⟨by simp [zmk, sumZ, loP, hoP, h1], rfl⟩
    have e0 : W4.cell? ⟨b, 0, none⟩ = some (.int .i64 q.k) := by rw [HN4.out.cell 0 (by omega)]; rfl
    have HP := hide (parts_any b q.k W4 e0 (by rw [h1]; decide) (by rw [h1]; decide))
    rw [show (tkidsN q.k).toNat = 0 from by rw [h1]; decide] at HP
    clear h1 hz0
    go_upto_region 5 with fail
    rw [← hW4]
    clear hW4 d1 d10 f10 d0 HN3 HG3
    go_wp2_with fail
    refine HP.out.mono ?_
    rintro e w5 ⟨rfl, hb5⟩
    have HN5 := hide (HN4.out.keep hb5)
    have HG5 := hide (grown_bel HG4.out hb5)
    clear hb5
    go_wp2_with fail
    go_loopw [42] (fun i wr => i = .int .i64 0 ∧ w5 = wr) (fun _ _ => 0)
    case atStart => exact ⟨rfl, rfl⟩
    case round =>
      obtain ⟨rfl, rfl⟩ := hrel
      go_wp2_with fail
      (first | go_end0 | (refine bodyPost_ret (results_none rfl _ _ _) rfl ?_) | ((try simp only [Exit.inBlock, Exit.then]); refine bodyPost_ret (results_none rfl _ _ _) rfl ?_))
      refine ⟨rfl, ?_, HG5.out⟩
      rw [HE.out.1, HE.out.2]
      exact HN5.out
  · have q1 : (q.k == 1) = false := by simp [h1]
    have hkn : (tkidsN q.k).toNat = zs.length := by have := HK.out; omega
    have HP := hide (parts_any b q.k W3 d0 (by have := HK.out; omega) (by have := HK.out; omega))
    rw [hkn] at HP
    have HBD := hide (fun (j : Nat) (W : World) (e0 : W.cell? ⟨b, 0, none⟩ = some (.int .i64 q.k)) => binds_any b q.k j W e0 (by have := HK.out; omega) (by have := HK.out; omega))
    have HL0 : Hid (loP q.k q.n zs 0 = 0) := by show _ = _; unfold loP; rw [if_neg h1]
    have HH0 : Hid (hoP q.k zs 0 = (q.k == 9)) := by show _ = _; simp [hoP]
    have hb3' := hb3
    clear hkn h1 hb3
    go_wp2_with fail
    refine HP.out.mono ?_
    rintro e w5 ⟨rfl, hb5⟩
    have HN5 : Hid (NbAt w5 b (tmL q (.slice la ls.length lc) ⟨1 + sumZ (zs.take 0), loP q.k q.n zs 0, hoP q.k zs 0⟩ (hpP (parL ls) hps 0))) := by
      show NbAt _ _ _
      rw [HL0.out, HH0.out]
      exact HN3.out.keep hb5
    have HG5 := hide (grown_bel HG3.out hb5)
    clear hb5 HP d0 HN3 HG3 hb3' HL0 HH0
    go_wp2_with fail
    go_loopw [42] (fun i wr => ∃ (j : Nat), j ≤ zs.length ∧ i = .int .i64 j ∧ Hid (NbAt wr b (tmL q (.slice la ls.length lc) ⟨1 + sumZ (zs.take j), loP q.k q.n zs j, hoP q.k zs j⟩ (hpP (parL ls) hps j))) ∧ Hid (w.grownBy wr (some b))) (fun i _ => zs.length - (intOf i).toNat)
    case atStart => exact ⟨0, by omega, rfl, HN5, HG5⟩
    case round =>
      clear HN5 HG5
      obtain ⟨j, hj, rfl, HT, HG⟩ := hrel
      by_cases hlt : j < zs.length
      · have hlt' : (j : Int) < zs.length := by omega
        have hbr := HT.out.lt
        have x0 : wr.cell? ⟨b, 0, none⟩ = some (.int .i64 q.k) := by rw [HT.out.cell 0 (by omega)]; rfl
        have x5 := nb_kid HT.out j (by omega)
        rw [HKID.out j hlt] at x5
        simp only [pv] at x5
        have x9 : wr.cell? ⟨b, 9, none⟩ = some (.int .i64 (1 + sumZ (zs.take j))) := by rw [HT.out.cell 9 (by omega)]; rfl
        have x10 : wr.cell? ⟨b, 10, none⟩ = some (.int .i64 (loP q.k q.n zs j)) := by rw [HT.out.cell 10 (by omega)]; rfl
        have f := HT.out.frozen
        have f9 := f 9
        have hnj := HNE.out j hlt
        obtain ⟨y9, y10, y11, y12⟩ := (HZ.out j hlt).grown HG.out (by intro e; exact hnj (Option.some.inj e))
        have hkl := lt_cell y9
        obtain ⟨⟨zo1, zo2, zo3⟩, zo4⟩ := HOK.out zs[j] (List.getElem_mem hlt)
        have hsq := sumZ_snoc zs j hlt
        have hsb : sumZ (zs.take j) ≤ 60003 := by
          have hh : ∀ (l : List Zs), (∀ z ∈ l, z.sz ≤ 20001) → sumZ l ≤ 20001 * l.length := by
            intro l
            induction l with
            | nil => intro _; simp [sumZ]
            | cons x l ih => intro h; have := ih (fun z hz => h z (by simp [hz])); have := h x (by simp); simp only [sumZ, List.length_cons]; push_cast; omega
          have h1 := hh (zs.take j) (fun z hz => (HOK.out z (List.mem_of_mem_take hz)).2)
          have h2 : (zs.take j).length ≤ 3 := by simp; omega
          omega
        have hsn := sumZ_nonneg (zs.take j) (fun z hz => (HOK.out z (List.mem_of_mem_take hz)).1.1)
        have HSQ : Hid (1 + sumZ (zs.take (j + 1)) = 1 + sumZ (zs.take j) + zs[j].sz) := by show _ = _; omega
        have HHQ := hide (hoP_succ q.k zs j hlt)
        obtain ⟨lo1, lo2⟩ := HLO.out j
        have HBN : Hid (bindN q.k j = (if lastB q.k zs j then 1 else 0)) := by
          show _ = _
          unfold bindN lastB
          have hk := HK.out
          by_cases e1 : j + 1 = zs.length
          · have e2 : (j : Int) = tkidsN q.k - 1 := by omega
            cases hbk : bindsB q.k <;> simp [e1, e2]
          · have e2 : ¬ (j : Int) = tkidsN q.k - 1 := by omega
            simp [e1, e2]
        have hbn01 : 0 ≤ bindN q.k j ∧ bindN q.k j ≤ 1 := by unfold bindN; split <;> omega
        have HLQ : Hid (loP q.k q.n zs (j + 1) = max (loP q.k q.n zs j) (zs[j].lo - bindN q.k j)) := by
          show _ = _
          rw [HBN.out]
          simp [loP, freeAt, List.getD, hlt]
        have HQ1 := hide (show j + 1 ≤ zs.length from hlt)
        have HCB := hide (HBD.out j)
        clear HZ HOK HLO hsq HBN HNE HKID
        generalize kb j = kj at *
        generalize zs[j] = zq at *
        have HPQ : Hid (hpP (parL ls) hps (j + 1) = (hpP (parL ls) hps j || hps j)) := rfl
        generalize hps j = hq at *
        obtain ⟨S, hS⟩ : ∃ S : Int, 1 + sumZ (zs.take j) = S := ⟨_, rfl⟩
        rw [hS] at x9 HSQ HT
        have hS0 : 1 ≤ S := by omega
        have hS1 : S ≤ 60004 := by omega
        clear hS hsb hsn
        generalize loP q.k q.n zs j = lo at *
        generalize hoP q.k zs j = ho at *
        generalize hpP (parL ls) hps j = hp at *
        generalize bindN q.k j = bn at *
        have hwS : IntKind.i64.wrap (S + zq.sz) = S + zq.sz := by rw [IntKind.wrap_i64]; omega
        obtain ⟨bn0, bn1⟩ := hbn01
        have hwm : IntKind.i64.wrap (zq.lo - bn) = zq.lo - bn := by rw [IntKind.wrap_i64]; omega
        obtain ⟨W8, hW8⟩ : ∃ W8, W8 = (wr.setCell ⟨b, 9, none⟩ (.int .i64 (S + zq.sz))).drew := ⟨_, rfl⟩
        have HN8 : Hid (NbAt W8 b (tmL q (.slice la ls.length lc) ⟨S + zq.sz, lo, ho⟩ hp)) := by show NbAt _ _ _; rw [hW8]; exact (nb_set HT.out 9 (.int .i64 (S + zq.sz))).drew
        have HG8 : Hid (w.grownBy W8 (some b)) := by show World.grownBy _ _ _; rw [hW8]; exact (HG.out.trans (grown_set wr ⟨b, 9, none⟩ _)).trans (grown_drew _ _)
        have G8 : wr.grownBy W8 (some b) := by rw [hW8]; exact (grown_set wr ⟨b, 9, none⟩ _).trans (grown_drew _ _)
        have hkb : some kj ≠ some b := fun e => hnj (Option.some.inj e)
        have u10 := grown_cell G8 hkb y10
        have u11 := grown_cell G8 hkb y11
        have u12 := grown_cell G8 hkb y12
        clear G8
        go_wp2_with fail
        go_region
        rw [← hW8]
        clear hW8 x9 x10 x5 x0 y9 y10 y11 y12 f9 f hbr HT HG hkl
        have z0 : W8.cell? ⟨b, 0, none⟩ = some (.int .i64 q.k) := by rw [HN8.out.cell 0 (by omega)]; rfl
        have z10 : W8.cell? ⟨b, 10, none⟩ = some (.int .i64 lo) := by rw [HN8.out.cell 10 (by omega)]; rfl
        have hb8 := HN8.out.lt
        have hk8 := lt_cell u10
        have hS0 : (fun w' : World => w'.cell? ⟨b, 10, none⟩ = some (.int .i64 lo) ∧ w'.cell? ⟨kj, 10, none⟩ = some (.int .i64 zq.lo) ∧ w'.cell? ⟨b, 0, none⟩ = some (.int .i64 q.k)) W8.drew := ⟨z10, u10, z0⟩
        go_wp2_with fail
        refine anyE_region (L := 16) (S := fun w' : World => w'.cell? ⟨b, 10, none⟩ = some (.int .i64 lo) ∧ w'.cell? ⟨kj, 10, none⟩ = some (.int .i64 zq.lo) ∧ w'.cell? ⟨b, 0, none⟩ = some (.int .i64 q.k)) (by kernel_rfl) ?_
        refine anyE_take 0 (v := ?v1) rfl (by kernel_rfl) (by kernel_rfl) (by kernel_rfl) (by kernel_rfl) (fun _ _ _ h => h) (by rfl) ?hy1 hS0 ?rest1
        case hy1 =>
          intro wx hx
          obtain ⟨s1, s2, s3⟩ := hx
          go_simp
          try rfl
        case rest1 =>
        intro K hK
        go_simp
        refine hK.out _ ?_
        clear hK K
        refine anyE_take 1 (v := ?v2) rfl (by kernel_rfl) (by kernel_rfl) (by kernel_rfl) (by kernel_rfl) (fun _ _ _ h => h) (by rfl) ?hy2 hS0 ?rest2
        case hy2 =>
          intro wx hx
          obtain ⟨s1, s2, s3⟩ := hx
          go_simp
          try rfl
        case rest2 =>
        intro K hK
        go_simp
        refine hK.out _ ?_
        clear hK K
        refine anyE_take 2 (v := ?v3) rfl (by kernel_rfl) (by kernel_rfl) (by kernel_rfl) (by kernel_rfl) (fun _ _ _ h => h) (by rfl) ?hy3 hS0 ?rest3
        case hy3 =>
          intro wx hx
          obtain ⟨s1, s2, s3⟩ := hx
          go_simp
          try rfl
        case rest3 =>
        intro K hK
        go_simp
        refine hK.out _ ?_
        clear hK K
        refine anyE_take 3 (v := ?v4) rfl (by kernel_rfl) (by kernel_rfl) (by kernel_rfl) (by kernel_rfl) (fun _ _ _ h => h) (by rfl) ?hy4 hS0 ?rest4
        case hy4 =>
          intro wx hx
          obtain ⟨s1, s2, s3⟩ := hx
          go_simp
          try rfl
        case rest4 =>
        intro K hK
        go_simp
        refine hK.out _ ?_
        clear hK K
        refine anyE_take 4 (v := ?v5) rfl (by kernel_rfl) (by kernel_rfl) (by kernel_rfl) (by kernel_rfl) (fun _ _ _ h => h) (by rfl) ?hy5 hS0 ?rest5
        case hy5 =>
          intro wx hx
          obtain ⟨s1, s2, s3⟩ := hx
          go_simp
          try rfl
        case rest5 =>
        intro K hK
        go_simp
        refine hK.out _ ?_
        clear hK K
        refine anyE_take 5 (v := ?v6) rfl (by kernel_rfl) (by kernel_rfl) (by kernel_rfl) (by kernel_rfl) (fun _ _ _ h => h) (by rfl) ?hy6 hS0 ?rest6
        case hy6 =>
          intro wx hx
          obtain ⟨s1, s2, s3⟩ := hx
          go_simp
          try rfl
        case rest6 =>
        intro K hK
        go_simp
        refine hK.out _ ?_
        clear hK K
        refine anyE_take 6 (v := ?v7) rfl (by kernel_rfl) (by kernel_rfl) (by kernel_rfl) (by kernel_rfl) (fun _ _ _ h => h) (by rfl) ?hy7 hS0 ?rest7
        case hy7 =>
          intro wx hx
          obtain ⟨s1, s2, s3⟩ := hx
          go_simp
          try rfl
        case rest7 =>
        intro K hK
        go_simp
        refine hK.out _ ?_
        clear hK K
        refine anyE_take 7 (v := ?v8) rfl (by kernel_rfl) (by kernel_rfl) (by kernel_rfl) (by kernel_rfl) (fun _ _ _ h => h) (by rfl) ?hy8 hS0 ?rest8
        case hy8 =>
          intro wx hx
          obtain ⟨s1, s2, s3⟩ := hx
          go_simp
          try rfl
        case rest8 =>
        intro K hK
        go_simp
        refine hK.out _ ?_
        clear hK K
        refine anyE_take 8 (v := ?v9) rfl (by kernel_rfl) (by kernel_rfl) (by kernel_rfl) (by kernel_rfl) (fun _ _ _ h => h) (by rfl) ?hy9 hS0 ?rest9
        case hy9 =>
          intro wx hx
          obtain ⟨s1, s2, s3⟩ := hx
          go_simp
          try rfl
        case rest9 =>
        intro K hK
        go_simp
        refine hK.out _ ?_
        clear hK K
        refine anyE_take 9 (v := ?v10) rfl (by kernel_rfl) (by kernel_rfl) (by kernel_rfl) (by kernel_rfl) (fun _ _ _ h => h) (by rfl) ?hy10 hS0 ?rest10
        case hy10 =>
          intro wx hx
          obtain ⟨s1, s2, s3⟩ := hx
          go_simp
          try rfl
        case rest10 =>
        intro K hK
        go_simp
        refine hK.out _ ?_
        clear hK K
        refine anyE_take 10 (v := ?v11) rfl (by kernel_rfl) (by kernel_rfl) (by kernel_rfl) (by kernel_rfl) (fun _ _ _ h => h) (by rfl) ?hy11 hS0 ?rest11
        case hy11 =>
          intro wx hx
          obtain ⟨s1, s2, s3⟩ := hx
          go_simp
          try rfl
        case rest11 =>
        intro K hK
        go_simp
        refine hK.out _ ?_
        clear hK K
        refine anyE_one 11 (by kernel_rfl) rfl (fun K hK => ?_)
        go_simp
        refine (HCB.out W8.drew z0).mono ?_
        rintro e w9 ⟨rfl, hb9⟩
        have hb9' : Below W8.heap.size W8 w9 := (Below.refl W8.heap.size W8).drew.trans hb9
        have HN9 := hide (HN8.out.keep hb9')
        have HG9 := hide (grown_bel HG8.out hb9')
        have v10 := keep_cell hb9' z10
        have k10 := keep_cell hb9' u10
        have v0 := keep_cell hb9' z0
        have k11 := keep_cell hb9' u11
        have k12 := keep_cell hb9' u12
        have f10 := HN9.out.frozen 10
        have hb9l := HN9.out.lt
        clear hb9 hb9' HN8 HG8 u10 u11 u12 z0 z10 hS0
        have hS1 : (fun w' : World => w'.cell? ⟨b, 10, none⟩ = some (.int .i64 lo) ∧ w'.cell? ⟨kj, 10, none⟩ = some (.int .i64 zq.lo) ∧ w'.cell? ⟨b, 0, none⟩ = some (.int .i64 q.k)) w9 := ⟨v10, k10, v0⟩
        refine hK.out _ _ (fun _ => hS1) ?_
        clear hK K
        refine anyE_one 12 (by kernel_rfl) rfl (fun K hK => ?_)
        go_simp
        refine hK.out _ _ (fun _ => hS1) ?_
        clear hK K
        refine anyE_one 13 (by kernel_rfl) rfl (fun K hK => ?_)
        go_simp
        refine hK.out _ _ (fun _ => hS1) ?_
        clear hK K
        refine anyE_one 14 (by kernel_rfl) rfl (fun K hK => ?_)
        go_simp
        refine hK.out _ _ (fun _ => hS1) ?_
        clear hK K
        refine anyE_one 15 (by kernel_rfl) rfl (fun K hK => ?_)
        go_simp
        refine hK.out _ _ (fun _ => hS1) ?_
        clear hK K
        refine anyE_one 16 (by kernel_rfl) rfl (fun K hK => ?_)
        go_simp
        obtain ⟨W10, hW10⟩ : ∃ W10, W10 = w9.setCell ⟨b, 10, none⟩ (.int .i64 (max lo (zq.lo - bn))) := ⟨_, rfl⟩
        have HN10 : Hid (NbAt W10 b (tmL q (.slice la ls.length lc) ⟨S + zq.sz, max lo (zq.lo - bn), ho⟩ hp)) := by show NbAt _ _ _; rw [hW10]; exact nb_set HN9.out 10 (.int .i64 (max lo (zq.lo - bn)))
        have G10 : w9.grownBy W10 (some b) := by rw [hW10]; exact grown_set w9 ⟨b, 10, none⟩ _
        have HG10 := hide (HG9.out.trans G10)
        have k11 := grown_cell G10 hkb k11
        have k12 := grown_cell G10 hkb k12
        rw [← hW10]
        refine hK.out _ _ (fun h => absurd rfl h) ?_
        clear hK K
        refine anyE_done (by kernel_rfl) ?_ _
        clear hS1 hW10 G10 HN9 HG9 v10 k10 v0 f10 hb9l
        have t11 : W10.cell? ⟨b, 11, none⟩ = some (.bool ho) := by rw [HN10.out.cell 11 (by omega)]; rfl
        have t12 : W10.cell? ⟨b, 12, none⟩ = some (.bool hp) := by rw [HN10.out.cell 12 (by omega)]; rfl
        have f11 := HN10.out.frozen 11
        have f12 := HN10.out.frozen 12
        have hb10 := HN10.out.lt
        have hk10 := lt_cell k11
        cases ho
        · cases hp
          · have HHN : Hid (hoP q.k zs (j + 1) = zq.ho) := by show _ = _; rw [HHQ.out]; rfl
            have HPN : Hid (hpP (parL ls) hps (j + 1) = hq) := by show _ = _; rw [HPQ.out]; rfl
            have HNF := hide (nb_set (nb_set HN10.out 11 (.bool zq.ho)) 12 (.bool hq))
            have HGF := hide ((HG10.out.trans (grown_set W10 ⟨b, 11, none⟩ (.bool zq.ho))).trans (grown_set _ ⟨b, 12, none⟩ (.bool hq)))
            go_wp2_with fail
            go_roundw
            case rel => exact ⟨j + 1, HQ1.out, by go_num, by show NbAt _ _ _; rw [HSQ.out, HLQ.out, HHN.out, HPN.out]; exact HNF.out, HGF.out⟩
            case measure => have := HQ1.out; simp [intOf]; omega
          · have HHN : Hid (hoP q.k zs (j + 1) = zq.ho) := by show _ = _; rw [HHQ.out]; rfl
            have HPN : Hid (hpP (parL ls) hps (j + 1) = true) := by show _ = _; rw [HPQ.out]; rfl
            have HNF := hide (nb_set (nb_set HN10.out 11 (.bool zq.ho)) 12 (.bool true))
            have HGF := hide ((HG10.out.trans (grown_set W10 ⟨b, 11, none⟩ (.bool zq.ho))).trans (grown_set _ ⟨b, 12, none⟩ (.bool true)))
            go_wp2_with fail
            go_roundw
            case rel => exact ⟨j + 1, HQ1.out, by go_num, by show NbAt _ _ _; rw [HSQ.out, HLQ.out, HHN.out, HPN.out]; exact HNF.out, HGF.out⟩
            case measure => have := HQ1.out; simp [intOf]; omega
        · cases hp
          · have HHN : Hid (hoP q.k zs (j + 1) = true) := by show _ = _; rw [HHQ.out]; rfl
            have HPN : Hid (hpP (parL ls) hps (j + 1) = hq) := by show _ = _; rw [HPQ.out]; rfl
            have HNF := hide (nb_set (nb_set HN10.out 11 (.bool true)) 12 (.bool hq))
            have HGF := hide ((HG10.out.trans (grown_set W10 ⟨b, 11, none⟩ (.bool true))).trans (grown_set _ ⟨b, 12, none⟩ (.bool hq)))
            go_wp2_with fail
            go_roundw
            case rel => exact ⟨j + 1, HQ1.out, by go_num, by show NbAt _ _ _; rw [HSQ.out, HLQ.out, HHN.out, HPN.out]; exact HNF.out, HGF.out⟩
            case measure => have := HQ1.out; simp [intOf]; omega
          · have HHN : Hid (hoP q.k zs (j + 1) = true) := by show _ = _; rw [HHQ.out]; rfl
            have HPN : Hid (hpP (parL ls) hps (j + 1) = true) := by show _ = _; rw [HPQ.out]; rfl
            have HNF := hide (nb_set (nb_set HN10.out 11 (.bool true)) 12 (.bool true))
            have HGF := hide ((HG10.out.trans (grown_set W10 ⟨b, 11, none⟩ (.bool true))).trans (grown_set _ ⟨b, 12, none⟩ (.bool true)))
            go_wp2_with fail
            go_roundw
            case rel => exact ⟨j + 1, HQ1.out, by go_num, by show NbAt _ _ _; rw [HSQ.out, HLQ.out, HHN.out, HPN.out]; exact HNF.out, HGF.out⟩
            case measure => have := HQ1.out; simp [intOf]; omega
      · have hlt' : ¬ (j : Int) < zs.length := by omega
        have HE : Hid (NbAt wr b (tmL q (.slice la ls.length lc) (zmk q.k q.n zs) (hpP (parL ls) hps zs.length))) := by
          have h := HT.out
          have e : j = zs.length := by omega
          subst e
          rw [List.take_length] at h
          exact h
        go_wp2_with fail
        (first | go_end0 | (refine bodyPost_ret (results_none rfl _ _ _) rfl ?_) | ((try simp only [Exit.inBlock, Exit.then]); refine bodyPost_ret (results_none rfl _ _ _) rfl ?_))
        exact ⟨rfl, HE.out, HG.out⟩
end Go.Proofs.YtpmpooekpeocdaaGreat
