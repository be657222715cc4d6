/- What the draws of a term's text answer: some text that is not too long. -/
import Derived.Test.YtmdcdapjjodpiaaDoorWay
namespace Go.Proofs.YtmdcdapjjodpiaaDoor
open Go.ChangeShapes Go.WideShapes Go.ChangeAt Go.RowKit

/-- Some text of at most so many bytes, the reader being a reader still, what lies below it unchanged. -/
def StrOut (base R N : Nat) (w : World) (e : Ending) (w' : World) : Prop :=
  (∃ s : ByteArray, e = .returned (.string s) ∧ s.size ≤ N) ∧ RdQ base w' R ∧ Below base w w'
theorem way_ok {s : ByteArray} (h : wayB s = true) : s.size ≤ 200 ∧ ∀ i (hi : i < s.size), (s[i].toNat : Int) = 37 → i + 1 < s.size := by
  unfold wayB at h
  rw [Bool.and_eq_true, decide_eq_true_eq] at h
  refine ⟨h.1, fun i hi h37 => ?_⟩
  by_cases h1 : i + 1 < s.size
  · exact h1
  · exfalso
    have h2 := h.2
    have hl : s.data.toList.length = s.size := by simp
    have h3 : s.data.toList.getLast? = some 37 := by
      rw [List.getLast?_eq_getElem?, hl, show s.size - 1 = i by omega, List.getElem?_eq_getElem (by omega), get_data s i hi]
      congr 1
      apply UInt8.toNat_inj.1
      show s[i].toNat = 37
      omega
    rw [h3] at h2
    simp at h2
theorem way_mem {L : List ByteArray} (h : L.all wayB = true) {s : ByteArray} (hs : s ∈ L) : wayB s = true := List.all_eq_true.1 h s hs
def bnd (d : Nat) : Nat := 200 ^ (5 - d)
theorem bnd_pos (d : Nat) : 1 ≤ bnd d := Nat.one_le_pow _ _ (by decide)
/-- What the drawing of a term's text at a depth answers. -/
def OfIH (d N : Nat) : Prop := ∀ (c : Int) (R base : Nat) (w : World), RdQ base w R → Calls Tryd.prog 48 #[.pointer (some ⟨R, 0, none⟩), .int .u8 c, .int .i64 (d : Int)] w fun e w' => StrOut base R N w e w'
set_option maxRecDepth 20000 in
set_option maxHeartbeats 4000000 in
theorem fill_any (d : Nat) (hd : d ≤ 3) (N : Nat) (hN1 : 1 ≤ N) (hN2 : N ≤ 1600000000) (IH : OfIH (d + 1) N) (s : ByteArray) (hs : wayB s = true) (R base : Nat) (w : World) (h : RdQ base w R) :
    Calls Tryd.prog 34 #[.pointer (some ⟨R, 0, none⟩), .string s, .int .i64 (d : Int)] w fun e w' => StrOut base R (200 * N) w e w' := by
  obtain ⟨hz, h37⟩ := way_ok hs
  have H37 := hide h37
  have HI := hide IH
  have HR := hide h
  clear h37 IH h hs
  go_enter Tryd.func34, Tryd.ntmps34
  go_wp2_with fail
  go_loopw [7, 8] (fun ov iv wr => ∃ (k : Nat) (out : ByteArray), k ≤ s.size ∧ Hid (out.size ≤ k * N) ∧ out.size ≤ 400000000000 ∧ iv = .int .i64 k ∧ ov = .string out ∧ Hid (RdQ base wr R) ∧ Hid (Below base w wr)) (fun _ iv _ => s.size - (intOf iv).toNat)
  case atStart => exact ⟨0, ⟨#[]⟩, by omega, by show 0 ≤ _; omega, by show 0 ≤ _; omega, rfl, rfl, HR.out, Below.refl _ _⟩
  case round =>
    obtain ⟨k, out, hk, HO, hol, rfl, rfl, HQ, HB⟩ := hrel
    by_cases hlt : k < s.size
    · have hlt' : (k : Int) < s.size := by omega
      have hol2 : out.size ≤ 200 * N := Nat.le_trans HO.out (Nat.mul_le_mul_right _ (by omega))
      have hol3 : 200 * N ≤ 320000000000 := by omega
      by_cases hq : (s[k].toNat : Int) = 37
      · have h1 := H37.out k hlt hq
        have h1' : (k : Int) + 1 < s.size := by omega
        have hqb : ((s[k].toNat : Int) == 37) = true := by simp [hq]
        have hmul : (k + 1 + 1) * N = k * N + N + N := by rw [Nat.add_mul, Nat.add_mul, Nat.one_mul]
        have HM := hide hmul
        clear hq hmul
        have IH2 : ∀ c W, RdQ base W R → Calls Tryd.prog 48 #[.pointer (some ⟨R, 0, none⟩), .int .u8 c, .int .i64 ((d : Int) + 1)] W fun e w' => StrOut base R N W e w' := fun c W hW => HI.out c R base W hW
        have IH3 := hide IH2
        clear IH2
        go_wp2_with (first
          | (go_at_call 48; refine (IH3.out _ _ HQ.out).mono ?_; rintro e w2 ⟨⟨s2, rfl, hs2⟩, hr2, hb2⟩; have HR2 := hide hr2; have HB2 := hide (HB.out.trans hb2); have hss : out.size + s2.size ≤ 9223372036854775807 := by { omega }; clear hr2 hb2)
          | fail)
        go_roundw
        case rel => exact ⟨k + 2, out ++ s2, by omega, by show _ ≤ _; rw [ByteArray.size_append, HM.out]; have := HO.out; omega, by rw [ByteArray.size_append]; omega, by go_num, rfl, HR2.out, HB2.out⟩
        case measure => simp [intOf]; omega
      · have hqb : ((s[k].toNat : Int) == 37) = false := by simp [hq]
        have hmul : (k + 1) * N = k * N + N := by rw [Nat.add_mul, Nat.one_mul]
        have HM := hide hmul
        have hes : (s.extract k (k + 1)).size = 1 := by rw [ext_size _ _ _ (by omega) (by omega)]; omega
        have hss : out.size + (s.extract k (k + 1)).size ≤ 9223372036854775807 := by omega
        have hk1 : (k : Int) + 1 ≤ s.size := by omega
        have hk0 : (k : Int) ≤ (k : Int) + 1 := by omega
        have HES := hide hes
        have hsw : ∀ W, (Instr.slice 9 (.string s) (some (.int .i64 (k : Int))) (some (.int .i64 ((k : Int) + 1))) none).run Tryd.prog W = .ok (.string (s.extract k (k + 1))) W := fun W => by
          simp [go_sem, run_slice_string_if (P := Tryd.prog) W 9 s .i64 .i64 (k : Int) ((k : Int) + 1) Tryd.underlying9, hk1, hk0]
          intro h0
          omega
        generalize s.extract k (k + 1) = X at *
        clear hq hmul hes
        go_wp2_with fail
        go_roundw
        case rel => exact ⟨k + 1, out ++ X, by omega, by show _ ≤ _; rw [ByteArray.size_append, HM.out, HES.out]; have := HO.out; omega, by rw [ByteArray.size_append, HES.out]; omega, by go_num, rfl, HQ.out, HB.out⟩
        case measure => simp [intOf]; omega
    · have hlt' : ¬ (k : Int) < s.size := by omega
      have hol2 : out.size ≤ 200 * N := Nat.le_trans HO.out (Nat.mul_le_mul_right _ (by omega))
      go_wp2_with fail
      go_ret
      exact ⟨⟨_, rfl, hol2⟩, HQ.out, HB.out⟩
set_option maxRecDepth 20000 in
set_option maxHeartbeats 4000000 in
/-- Where the drawing stops, or goes on by a text's filling. -/
theorem of_any (d N : Nat) (hd : d ≤ 4) (hN : 200 ≤ N) (IH : d ≤ 3 → ∀ (s : ByteArray) (R base : Nat) (w : World), wayB s = true → RdQ base w R → Calls Tryd.prog 34 #[.pointer (some ⟨R, 0, none⟩), .string s, .int .i64 (d : Int)] w fun e w' => StrOut base R N w e w') : OfIH d N := by
  intro c R base w h
  have HR := hide h
  have hRl := h.lt
  have HI := hide IH
  clear h IH
  go_enter Tryd.func48, Tryd.ntmps48
  go_upto_region 3 with (first
    | (go_at_call 51; refine (l14Ways_any _ _).mono ?_; rintro e w1 ⟨L, rfl, hT, h3, h100, hall⟩; have HT := hide hT; have HR1 := hide (HR.out.keep hT.bel); have HALL := hide hall; clear hT hall)
    | (go_at_call 9; refine (next_any R base _ HR1.out).mono ?_; rintro e w2 ⟨v, rfl, hv, hr2, hg2⟩; have HR2 := hide hr2; have HG2 := hide hg2; clear hr2 hg2)
    | fail)
  have HC2 : Hid (∀ j (hj : j < L.length), w2.cell? ⟨w.heap.size, j, none⟩ = some (.string L[j])) := fun j hj =>
    (HG2.out.cell_far ⟨w.heap.size, j, none⟩ (lt_cell (HT.out.cell j hj)) (by simp; omega)).trans (HT.out.cell j hj)
  have HB2 := hide ((HT.out.bel.mono (by omega)).trans (below_of HG2.out hRl.1 (by have := HR1.out.lt; omega)))
  go_cut [23] from 13 to 23 (fun u wx => ∃ q : Bool, u = .bool q ∧ Hid (d = 4 → q = true) ∧ Hid (∃ n, wx = w2.drewN n))
  case first =>
    by_cases hd4 : d = 4
    · have h4 : (3 : Int) < d := by omega
      go_wp2_with fail
      go_meet
      exact ⟨_, rfl, fun _ => rfl, 0, rfl⟩
    · have h4 : decide ((3 : Int) < d) = false := by simp; omega
      go_wp2_with (first
        | (go_at_call 52; refine (left_any R base _ HR2.out).mono ?_; rintro e w3 ⟨z, rfl, n3, hw3⟩; subst hw3)
        | fail)
      all_goals
        go_meet
        exact ⟨_, rfl, fun h => absurd h hd4, _, rfl⟩
  case rest =>
    obtain ⟨q, rfl, HQ4, n, hn⟩ := hcut
    subst hn
    have HR3 := hide (HR2.out.keep (below_drewN (Below.refl _ _) n))
    have HB3 := hide (show Below base w (w2.drewN n) from below_drewN HB2.out n)
    have HW := hide (fun s (hs : s ∈ L) => way_mem HALL.out hs)
    have hL3 : (3 : Int) ≤ L.length := by omega
    cases q
    · have hd3 : d ≤ 3 := by
        by_cases h : d = 4
        · have := HQ4.out h; simp at this
        · omega
      obtain ⟨hr1, hr2⟩ := tmod_nat (v := v) (m := L.length) (by omega)
      obtain ⟨r, hr⟩ : ∃ r, r = v % L.length := ⟨_, rfl⟩
      rw [← hr] at hr1 hr2
      have hc := HC2.out r hr2
      have hc' : (w2.drewN n).cell? ⟨w.heap.size, r, none⟩ = some (.string (L[r]'hr2)) := hc
      have hne : ¬ (L.length : Int) = 0 := by omega
      have hne2 : ¬ L = [] := by intro e; rw [e] at h3; simp at h3
      have hwr : IntKind.i64.wrap (r : Int) = (r : Int) := by rw [IntKind.wrap_i64]; omega
      have hrl : (r : Int) < (L.length : Int) := by omega
      have HI2 := hide (HI.out hd3 (L[r]'hr2) R base (w2.drewN n) (HW.out _ (List.getElem_mem _)) HR3.out)
      have hre : (v : Int) % (L.length : Int) = (r : Int) := by rw [hr]; omega
      clear hr hc
      generalize L[r]'hr2 = s at *
      go_wp2_with (first
        | (go_at_call 34; refine HI2.out.mono ?_; rintro e w5 ⟨⟨s5, rfl, hs5⟩, hr5, hb5⟩; have HR5 := hide hr5; have HB5 := hide (HB3.out.trans hb5); have HS5 := hide hs5; clear hr5 hb5 hs5)
        | fail)
      go_ret
      exact ⟨⟨_, rfl, HS5.out⟩, HR5.out, HB5.out⟩
    · have hr2 : v % 3 < L.length := by omega
      have hc := HC2.out (v % 3) hr2
      have hc' : (w2.drewN n).cell? ⟨w.heap.size, v % 3, none⟩ = some (.string (L[v % 3]'hr2)) := hc
      have hz := (way_ok (HW.out (L[v % 3]'hr2) (List.getElem_mem _))).1
      have hrl : ((v : Int) % 3) < (L.length : Int) := by omega
      clear hc
      generalize L[v % 3]'hr2 = s at *
      go_wp2_with fail
      go_ret
      exact ⟨⟨_, rfl, by omega⟩, HR3.out, HB3.out⟩
theorem fill3 (s : ByteArray) (hs : wayB s = true) (R base : Nat) (w : World) (h : RdQ base w R) :
    Calls Tryd.prog 34 #[.pointer (some ⟨R, 0, none⟩), .string s, .int .i64 0] w fun e w' => StrOut base R 320000000000 w e w' := by
  have o4 : OfIH 4 200 := of_any 4 200 (by omega) (by omega) (fun h => by omega)
  have o3 : OfIH 3 40000 := of_any 3 40000 (by omega) (by omega) (fun _ s R base w hs h => fill_any 3 (by omega) 200 (by omega) (by omega) o4 s hs R base w h)
  have o2 : OfIH 2 8000000 := of_any 2 8000000 (by omega) (by omega) (fun _ s R base w hs h => fill_any 2 (by omega) 40000 (by omega) (by omega) o3 s hs R base w h)
  have o1 : OfIH 1 1600000000 := of_any 1 1600000000 (by omega) (by omega) (fun _ s R base w hs h => fill_any 1 (by omega) 8000000 (by omega) (by omega) o2 s hs R base w h)
  exact fill_any 0 (by omega) 1600000000 (by omega) (by omega) o1 s hs R base w h
end Go.Proofs.YtmdcdapjjodpiaaDoor
