/- What the specification's l3Tree answers: nothing where the nodes make no valid term, else its whole tree, node by node. -/
import Derived.Test.YtcagcfhnbphggaaGreatDoorTFD
import Derived.Test.YtcagcfhnbphggaaGreatDoorTFC
namespace Go.Proofs.YtcagcfhnbphggaaGreatDoor
open Go.ChangeShapes Go.WideShapes Go.ChangeAt Go.RowKit

/-- The kids of the first k nodes stand in front of them. -/
def KidsIn (ts : List Td) (k : Nat) : Prop := ∀ i (h : i < ts.length), i < k → ∀ c ∈ ts[i].kids, 0 ≤ c ∧ c < (i : Int)
theorem KidsIn.snoc {ts : List Td} {k : Nat} (h : KidsIn ts k) (hk : k < ts.length) (hn : ∀ c ∈ ts[k].kids, 0 ≤ c ∧ c < (k : Int)) : KidsIn ts (k + 1) := by
  intro i hi hik
  by_cases e : i = k
  · subst e; exact hn
  · exact h i hi (by omega)
theorem forest_sz {Q : Nat → Prop} {w : World} {pt : Nat → Nat} {ts : List Td} {k : Nat} {st : List Int} {ps : List Nat} {zs : List Zs} (h : Forest Q w pt ts k) (hk : k ≤ ts.length) (hr : ∀ c ∈ st, 0 ≤ c ∧ c < (k : Int)) (hp : ps = st.map (fun c => pt c.toNat)) (hz : zs = st.map (zI (Zt ts))) : ∀ j (h1 : j < ps.length) (h2 : j < zs.length), SzAt w ps[j] zs[j] := by
  subst hp hz
  intro j h1 h2
  simp only [List.getElem_map]
  have hj : j < st.length := by simpa using h1
  have h3 := hr st[j] (by simp)
  have h4 := (h st[j].toNat (by omega) (by omega)).sz
  rw [show ((st[j].toNat : Nat) : Int) = st[j] from by omega] at h4
  exact h4
theorem forest_next {Q : Nat → Prop} {w : World} {pt : Nat → Nat} {ts : List Td} {k g : Nat} (hk : k < ts.length) (hi : KidsIn ts k) (hn : ∀ c ∈ ts[k].kids, 0 ≤ c ∧ c < (k : Int)) (h : Forest Q w pt ts k) (hg : FnAt Q w g ts[k] (ts[k].kids.map (fun c => pt c.toNat)) (zI (Zt ts) (k : Int))) : Forest Q w (ptPut pt k g) ts (k + 1) :=
  h.snoc hk (fun i hi' hik c hc => by
    by_cases e : i = k
    · subst e; exact hn c hc
    · exact hi i hi' (by omega) c hc) hg
theorem trun_last {F : Td → Bool} {ts : List Td} {k : Nat} {st : List Int} (h : trun F ts (k + 1) = some st) : ∃ l, st = l ++ [(k : Int)] := by
  unfold trun at h
  split at h
  · unfold tstep at h
    split at h
    · cases h
    · cases h; exact ⟨_, rfl⟩
  · cases h
theorem ne_new {b g gg H n c : Nat} (hat : (Value.slice (some ⟨g, 0, none⟩) n c).ownBlock = some gg ∨ gg = H) (h1 : b ≠ g) (h2 : b < H) : b ≠ gg := by
  rcases hat with h | h
  · simp [Value.ownBlock] at h; omega
  · omega
theorem ptPut_ge {pt : Nat → Nat} {k g B i : Nat} (hg : B ≤ g) (h : ∀ i, i < k → B ≤ pt i) (hi : i < k + 1) : B ≤ ptPut pt k g i := by
  unfold ptPut
  split
  · exact hg
  · exact h i (by omega)
theorem map_next {α : Type} (f : Int → α) (st : List Int) (lo k : Nat) : (st.take lo ++ [(k : Int)]).map f = (st.map f).take lo ++ [f (k : Int)] := by simp [List.map_take]

set_option maxRecDepth 20000 in
set_option maxHeartbeats 4000000 in
theorem l3TreeF_any (v : Value) (ts : List Td) (w : World) (hns : TNodesAt w v ts) (hsz : ∀ td ∈ ts, TLens td) (hlv : ∀ td ∈ ts, td.lv.length ≤ 1048576) :
    Calls Tryz.prog 14 #[.agg #[v]] w fun e w' => ((termB ts = false ∧ e = .returned (.pointer none)) ∨ (termB ts = true ∧ KidsIn ts ts.length ∧ ∃ pt Q, e = .returned (.pointer (some ⟨pt (ts.length - 1), 0, none⟩)) ∧ Forest Q w' pt ts ts.length ∧ (∀ i, i < ts.length → w.heap.size ≤ pt i) ∧ ∀ b, Q b → w.heap.size ≤ b)) ∧ Below w.heap.size w w' := by
  obtain ⟨i3, hi3, hz3, hs3, hb3⟩ := info_parts Tryz.info3
  obtain ⟨ip, hip, hzp, hsp, hbp⟩ := info_parts Tryz.info39
  have mixed : Tryz.prog.follows .mixedOrders = true := by kernel_rfl
  obtain ⟨a, cap, rfl, hl, hm, hc⟩ := hns
  unfold maxLen at hm
  have H : Hid (0 < ts.length → ∃ b off, a = some ⟨b, off, none⟩ ∧ ∀ i (h : i < ts.length), TNodeAt w b (off + i * 6) ts[i]) := hc
  have HZ := hide hsz
  have HLVL := hide hlv
  clear hc hsz hlv
  by_cases h0 : ts.length < 1
  · have HF : Hid (termB ts = false) := by
      show _ = false
      have : ts = [] := List.eq_nil_of_length_eq_zero (by omega)
      subst this; rfl
    have hq0 : decide ((ts.length : Int) < 1) = true := by simp; omega
    clear h0
    go_enter Tryz.func14, Tryz.ntmps14
    go_wp2_with fail
    go_ret
    exact ⟨.inl ⟨HF.out, rfl⟩, bel_alloc (Below.refl _ _) _⟩
  have hq0 : decide ((ts.length : Int) < 1) = false := by simp; omega
  by_cases h64 : 20000 < ts.length
  · have HF : Hid (termB ts = false) := by show _ = false; simp [termB, termB']; omega
    have hq64 : decide (20000 < (ts.length : Int)) = true := by simp; omega
    go_enter Tryz.func14, Tryz.ntmps14
    go_wp2_with fail
    go_ret
    exact ⟨.inl ⟨HF.out, rfl⟩, bel_alloc (Below.refl _ _) _⟩
  have hq64 : decide (20000 < (ts.length : Int)) = false := by simp; omega
  obtain ⟨W0, hW0⟩ : ∃ W0, W0 = w.alloc (.cells #[.slice a ts.length cap] 31) := ⟨_, rfl⟩
  have hr1 := World.ownsRow_lit (base := w.heap.size + 1) (e := 39) (size := 1) W0 #[] 0 (by rw [hW0]; simp) (by unfold maxLen; omega) rfl
  have hr2 := World.ownsRow_lit (base := w.heap.size + 1) (e := 3) (size := 1) (W0.alloc (.cells #[] 39)) #[] 0 (by rw [hW0]; simp) (by unfold maxLen; omega) rfl
  have HR1 := hide (hr1.alloc (.cells #[] 3))
  have HR2 := hide hr2
  have HB0 := hide (show Below w.heap.size w ((W0.alloc (.cells #[] 39)).alloc (.cells #[] 3)) by rw [hW0]; exact bel_alloc (bel_alloc (bel_alloc (Below.refl _ _) _) _) _)
  have HX0 := hide (show ((W0.alloc (.cells #[] 39)).alloc (.cells #[] 3)).cell? ⟨w.heap.size, 0, none⟩ = some (.slice a ts.length cap) by rw [hW0]; simp [go_sem])
  rw [hW0] at HR1 HR2 HB0 HX0
  simp only [World.size_alloc] at HR1 HR2
  clear hr1 hr2 hW0
  go_enter Tryz.func14, Tryz.ntmps14
  go_wp2_with fail
  go_loopw [3, 4, 5] (fun r3 r4 i wr => ∃ (k gs cs gt ct : Nat) (st : List Int) (ps : List Nat) (zs : List Zs) (pt : Nat → Nat), k ≤ ts.length ∧ i = .int .i64 k ∧ Hid (trun (tfieldsB nameB) ts k = some st) ∧ st.length ≤ k ∧ r3 = .slice (some ⟨gs, 0, none⟩) st.length cs ∧ r4 = .slice (some ⟨gt, 0, none⟩) st.length ct ∧ Hid (ps.length = st.length) ∧ Hid (zs.length = st.length) ∧ Hid (zs = st.map (zI (Zt ts))) ∧ Hid (ps = st.map (fun c => pt c.toNat)) ∧ Hid (KidsIn ts k) ∧ Hid (∀ z ∈ zs, ZOk z) ∧ Hid (sumZ zs = (k : Int)) ∧ Hid (wr.ownsRow (w.heap.size + 1) 39 1 (.slice (some ⟨gs, 0, none⟩) st.length cs) st.length (ps.map ptrV)) ∧ Hid (OwnI (w.heap.size + 1) wr gt ct st) ∧ Hid (Forest (fun b => b ≠ gs ∧ b ≠ gt ∧ w.heap.size ≤ b) wr pt ts k) ∧ wr.cell? ⟨w.heap.size, 0, none⟩ = some (.slice a ts.length cap) ∧ Hid (Below w.heap.size w wr) ∧ Hid (∀ i, i < k → w.heap.size ≤ pt i)) (fun _ _ i _ => ts.length - (intOf i).toNat)
  case atStart => exact ⟨0, _, _, _, _, [], [], [], fun _ => 0, by omega, rfl, rfl, by simp, rfl, rfl, rfl, rfl, rfl, rfl, fun i _ h => by omega, by simp [Hid], rfl, HR1.out, HR2.out, fun i _ h => by omega, HX0.out, HB0.out, (fun i h => by omega)⟩
  case round =>
    obtain ⟨k, gs, cs, gt, ct, st, ps, zs, pt, hk, rfl, HR, hsk, rfl, rfl, HPS, HZS, HZR, HPR, HKI, HZO, HSM, HS, HT, HFO, hbox, HBL, HPT⟩ := hrel
    have HRG := hide (trun_range (tfieldsB nameB) ts k st HR.out)
    have HSZ := hide (forest_sz HFO.out hk HRG.out HPR.out HZR.out)
    clear HR1 HR2 HB0 HX0
    have hbs := HBL.out.size
    by_cases hlt : k < ts.length
    · obtain ⟨b, off, rfl, hc⟩ := H.out (by omega)
      obtain ⟨c1, c2, c3, c4, lv, c5, hlv0, kv, c6, hkv0⟩ := hc k hlt
      have HKW := hide hkv0
      have HLW := hide hlv0
      have c1 := keep_cell HBL.out c1
      have c2 := keep_cell HBL.out c2
      have c3 := keep_cell HBL.out c3
      have c4 := keep_cell HBL.out c4
      have c5 := keep_cell HBL.out c5
      have c6 := keep_cell HBL.out c6
      have HNO := hide (term_false (tfieldsB nameB) ts k hlt st HR.out)
      have HGO := hide (trun_succ (tfieldsB nameB) ts k hlt st HR.out)
      have HKN := hide (fun hn => KidsIn.snoc HKI.out hlt hn)
      have HZK := hide (fun hn => zt_eq ts k hlt hn)
      have HFN := hide (fun (Q : Nat → Prop) (W : World) (g : Nat) hn => forest_next (Q := Q) (w := W) (pt := pt) (g := g) hlt HKI.out hn)
      have HSL := hide (HZ.out ts[k] (by simp))
      have HLL := hide (HLVL.out ts[k] (by simp))
      clear hc H
      obtain ⟨ka, kc, rfl, _, _, _⟩ := hkv0
      obtain ⟨la, lc, rfl, _, _, _⟩ := hlv0
      generalize ts[k] = td at *
      have hlt' : (k : Int) < ts.length := by omega
      obtain ⟨W1, hW1⟩ : ∃ W1, W1 = wr.alloc (.cells #[.int .i64 td.k, .int .i64 td.n, .int .i64 td.m, .string td.s, .slice la td.lv.length lc, .slice ka td.kids.length kc] 58) := ⟨_, rfl⟩
      have HW1 := hide (show Below wr.heap.size wr W1 by rw [hW1]; exact bel_alloc (Below.refl _ _) _)
      haveI := bel_ne (wr.heap.size + 1) W1
      have n0 : ∀ p : Bel (wr.heap.size + 1) W1, p.w'.cell? ⟨wr.heap.size, 0, none⟩ = some (.int .i64 td.k) := fun p => p.cell (by omega) (by rw [hW1]; simp [go_sem])
      have n1 : ∀ p : Bel (wr.heap.size + 1) W1, p.w'.cell? ⟨wr.heap.size, 1, none⟩ = some (.int .i64 td.n) := fun p => p.cell (by omega) (by rw [hW1]; simp [go_sem])
      have n2 : ∀ p : Bel (wr.heap.size + 1) W1, p.w'.cell? ⟨wr.heap.size, 2, none⟩ = some (.int .i64 td.m) := fun p => p.cell (by omega) (by rw [hW1]; simp [go_sem])
      have n3 : ∀ p : Bel (wr.heap.size + 1) W1, p.w'.cell? ⟨wr.heap.size, 3, none⟩ = some (.string td.s) := fun p => p.cell (by omega) (by rw [hW1]; simp [go_sem])
      have n4 : ∀ p : Bel (wr.heap.size + 1) W1, p.w'.cell? ⟨wr.heap.size, 4, none⟩ = some (.slice la td.lv.length lc) := fun p => p.cell (by omega) (by rw [hW1]; simp [go_sem])
      have n5 : ∀ p : Bel (wr.heap.size + 1) W1, p.w'.cell? ⟨wr.heap.size, 5, none⟩ = some (.slice ka td.kids.length kc) := fun p => p.cell (by omega) (by rw [hW1]; simp [go_sem])
      have hsz1 : wr.heap.size + 1 ≤ W1.heap.size := by rw [hW1]; simp
      go_wp2_with fail
      rw [← hW1]
      clear hW1
      by_cases hA : tkidsN td.k = (td.kids.length : Int)
      case neg =>
        have HF : Hid (termB ts = false) := HNO.out (tstep_none _ (bad_len hA))
        have qA : (tkidsN td.k != (td.kids.length : Int)) = true := by rw [bne_iff_ne]; exact hA
        refine wp_region_bel (wr.heap.size + 1) mixed (by kernel_rfl) ?_
        repeat (quiet_step (first | (go_at_call 23; exact calls_bel hsz1 (l3KidsOf_any _ _))))
        refine wpQuiet_nil ?_
        intro _ hw'
        obtain ⟨p, hw2⟩ := hw'
        subst hw2
        go_wp2_with fail
        go_ret
        exact ⟨.inl ⟨HF.out, rfl⟩, HBL.out.trans (HW1.out.mono hbs |>.trans (p.h.mono (by omega)))⟩
      have qA : (tkidsN td.k != (td.kids.length : Int)) = false := by simp [hA]
      have hkc3 : td.kids.length ≤ 3 := by have := tkidsN_cases td.k; omega
      by_cases hD : st.length < td.kids.length
      case pos =>
        have HF : Hid (termB ts = false) := HNO.out (tstep_none _ (.inr (.inl (by omega))))
        have dD : decide ((st.length : Int) < (td.kids.length : Int)) = true := by simp; omega
        refine wp_region_bel (wr.heap.size + 1) mixed (by kernel_rfl) ?_
        repeat (quiet_step (first | (go_at_call 23; exact calls_bel hsz1 (l3KidsOf_any _ _))))
        refine wpQuiet_nil ?_
        intro _ hw'
        obtain ⟨p, hw2⟩ := hw'
        subst hw2
        go_wp2_with fail
        go_ret
        exact ⟨.inl ⟨HF.out, rfl⟩, HBL.out.trans (HW1.out.mono hbs |>.trans (p.h.mono (by omega)))⟩
      have dD : decide ((st.length : Int) < (td.kids.length : Int)) = false := by simp; omega
      obtain ⟨hkd1, hkd9⟩ := kind_of hA
      have HA := hide hA
      refine wp_region_bel (wr.heap.size + 1) mixed (by kernel_rfl) ?_
      repeat (quiet_step (first | (go_at_call 23; exact calls_bel hsz1 (l3KidsOf_any _ _))))
      refine wpQuiet_nil ?_
      intro _ hw'
      obtain ⟨p, hw2⟩ := hw'
      subst hw2
      have n0 := n0 p
      have n1 := n1 p
      have n2 := n2 p
      have n3 := n3 p
      have n4 := n4 p
      have n5 := n5 p
      have HBQ := hide (HW1.out.trans (p.h.mono (by omega)))
      obtain ⟨w2, hw2⟩ : ∃ w2, w2 = p.w' := ⟨_, rfl⟩
      rw [← hw2] at n0 n1 n2 n3 n4 n5 HBQ ⊢
      clear hw2 HW1 hA qA dD p
      have HBL2 := hide (HBL.out.trans (HBQ.out.mono hbs))
      have hszq := HBQ.out.size
      go_wp2_with fail
      refine (l3FieldsF_any td _ _ _ (HLW.out.keep HBL2.out) (HKW.out.keep HBL2.out) HSL.out HLL.out hkd1 hkd9).mono ?_
      rintro e w3 ⟨⟨ra, rn, rc, rfl, hfr⟩, hb3'⟩
      have n0 := keep_cell hb3' n0
      have n1 := keep_cell hb3' n1
      have n2 := keep_cell hb3' n2
      have n3 := keep_cell hb3' n3
      have n5 := keep_cell hb3' n5
      have HBQ3 := hide (HBQ.out.trans (hb3'.mono hszq))
      have HBL3 := hide (HBL.out.trans (HBQ3.out.mono hbs))
      have HFR := hide hfr
      have hsz3 : wr.heap.size ≤ w3.heap.size := HBQ3.out.size
      clear hb3' hfr HBQ HBL2
      cases hF : tfieldsB nameB td
      · have HF : Hid (termB ts = false) := HNO.out (tstep_none _ (.inr (.inr (.inl hF))))
        go_wp2_with fail
        go_ret
        exact ⟨.inl ⟨HF.out, rfl⟩, HBL3.out⟩
      obtain ⟨hrn, hlr⟩ := HFR.out hF
      have HLR := hide (lev_mono (R := fun b => b ≠ gs ∧ b ≠ gt ∧ w.heap.size ≤ b) hlr (fun b hb => by have := (HS.out.lt gs rfl).2; have := HT.out.lt.2; omega))
      have HNB := hide (fun h : td.k = 1 => num_of hF h)
      have HFT := hide hF
      clear hlr hrn HFR hF
      obtain ⟨lo, helo⟩ : ∃ lo : Nat, (st.length : Int) - (td.kids.length : Int) = (lo : Int) := ⟨st.length - td.kids.length, by omega⟩
      have HLO2 : Hid (lo + td.kids.length = st.length) := by show _ = _; omega
      have hlole : lo ≤ st.length := by omega
      have HLN : Hid (st.length - (tkidsN td.k).toNat = lo) := by show _ = _; have := HA.out; omega
      have hwlo : IntKind.i64.wrap (lo : Int) = (lo : Int) := by rw [IntKind.wrap_i64]; omega
      have HS3 := hide (row_keep HBQ3.out HS.out)
      have HT3 := hide (HT.out.keep HBQ3.out)
      have HSZ3 := hide (fun j (h1 : j < ps.length) (h2 : j < zs.length) => (HSZ.out j h1 h2).keep HBQ3.out)
      have hx3 := keep_cell HBQ3.out hbox
      have HK3 := hide (HKW.out.keep HBL3.out)
      have hrk := World.ownsRow_lit (base := w3.heap.size) (e := 39) (size := 1) w3 #[] 0 (Nat.le_refl _) (by unfold maxLen; omega) rfl
      have HRK := hide hrk
      have hwk : wr.heap.size < w3.heap.size := lt_cell n0
      obtain ⟨hgs1, hgs2⟩ := HS.out.lt gs rfl
      obtain ⟨hgt1, hgt2⟩ := HT.out.lt
      clear hrk HS HT HSZ hbox HKW HLW
      go_wp2_with fail
      obtain ⟨wo, hwo⟩ : ∃ x, x = wr := ⟨_, rfl⟩
      subst hwo
      go_loopw [10, 11] (fun o i wq => ∃ (j gk ck : Nat), j ≤ td.kids.length ∧ i = .int .i64 j ∧ o = .slice (some ⟨gk, 0, none⟩) j ck ∧ Hid (∀ m (h : m < td.kids.length) (h2 : lo + m < st.length), m < j → td.kids[m] = st[lo + m]) ∧ Hid (wq.ownsRow w3.heap.size 39 1 (.slice (some ⟨gk, 0, none⟩) j ck) j (((ps.drop lo).take j).map ptrV)) ∧ Hid (Below w3.heap.size w3 wq)) (fun _ i _ => td.kids.length - (intOf i).toNat)
      case atStart => exact ⟨0, _, _, by omega, rfl, rfl, fun m _ _ h => by omega, HRK.out, bel_alloc (Below.refl _ _) _⟩
      case round =>
        obtain ⟨j, gk, ck, hj, rfl, rfl, HJ, HRW, HBW⟩ := hrel
        have n5 := keep_cell HBW.out n5
        have hszw := HBW.out.size
        by_cases hjl : j < td.kids.length
        · obtain ⟨ka', kc', hkv', _, _, hkcell⟩ := HK3.out
          obtain ⟨kb, koff, hka, hkc2⟩ := hkcell (by omega)
          have hka2 : ka = some ⟨kb, koff, none⟩ := by
            rw [hka] at hkv'
            simp only [Value.slice.injEq] at hkv'
            exact hkv'.1
          rw [hka2] at n5
          clear hkcell hka hkv' hka2
          have k1 := keep_cell HBW.out (hkc2 j hjl)
          have hlj : lo + j < st.length := by have := HLO2.out; omega
          have t1 := (HT3.out.keep HBW.out : OwnI _ _ _ _ _).cellAt (lo + j) (by omega)
          rw [List.getElem?_map, List.getElem?_eq_getElem hlj] at t1
          simp only [Option.map_some] at t1
          have bj : (j : Int) < (td.kids.length : Int) := by omega
          have bl : (lo : Int) + (j : Int) < (st.length : Int) := by omega
          have bz : (0 : Int) ≤ (lo : Int) + (j : Int) := by omega
          have ez : ((lo : Int) + (j : Int)).toNat = lo + j := by omega
          have ew : IntKind.i64.wrap ((lo : Int) + (j : Int)) = (lo : Int) + (j : Int) := by rw [IntKind.wrap_i64]; omega
          clear hkc2
          by_cases he : td.kids[j] = st[lo + j]
          · have hne : (td.kids[j] != st[lo + j]) = false := by simp [he]
            have HJ2 : Hid (∀ m (h : m < td.kids.length) (h2 : lo + m < st.length), m < j + 1 → td.kids[m] = st[lo + m]) := by
              intro m h h2 hm
              by_cases e : m = j
              · subst e; exact he
              · exact HJ.out m h h2 (by omega)
            have hpl : lo + j < ps.length := by have := HPS.out; omega
            have s1 := (row_keep HBW.out HS3.out).cellAt (lo + j) (by omega)
            rw [List.getElem?_map, List.getElem?_eq_getElem hpl] at s1
            simp only [Option.map_some, ptrV] at s1
            have HPN := hide (ptr_snoc ps lo j hpl)
            have hckl : j ≤ 3 := by omega
            clear he HJ
            go_wp2_with fail
            go_quiet (fail)
            go_wp2_with (at_builtin; refine wpList_append_lies _ rfl _ _ 55 rfl w3.heap.size 39 ip (.pointer none) 1 8 Tryz.underlying55 hip hzp hsp hbp rfl (by omega) (.slice (some ⟨gk, 0, none⟩) j ck) j (((ps.drop lo).take j).map ptrV) rfl ((ownsRow_drewN HRW.out nq).alloc _) ⟨wr.heap.size, 0, none⟩ 1 1 [.pointer (some ⟨ps[lo + j], 0, none⟩)] rfl rfl ?c1 ?c2 (by omega) ?c3 ?c4 ?c5 (wr.heap.size + 1) (by simp) ?_)
            case c1 => exact cell_one_new _ _ _
            case c2 => first | rfl | (intro u hu; simp at hu; subst hu; rfl)
            case c3 => unfold maxLen; omega
            case c4 => omega
            case c5 => simp; omega
            intro g4 cap4 w4 hown4 hgrow4 hat4 hlt4
            have HON := hide (show w4.ownsRow w3.heap.size 39 1 (.slice (some ⟨g4, 0, none⟩) (j + 1) cap4) (j + 1) (((ps.drop lo).take (j + 1)).map ptrV) by rw [← HPN.out, List.map_take, List.map_drop]; exact hown4)
            have HBN := hide (((below_drewN HBW.out nq).alloc (by exact hszw) (.cells #[.pointer (some ⟨ps[lo + j], 0, none⟩)] 39)).grown hgrow4 (by simp; omega) (fun q hq => by simp [Value.ownBlock] at hq; subst hq; exact (HRW.out.lt gk rfl).1))
            clear hown4 hgrow4 hat4 hlt4
            go_wp2_with fail
            go_roundw
            case rel => exact ⟨j + 1, _, _, by omega, by go_num, rfl, HJ2, HON, HBN⟩
            case measure => simp [intOf]; omega
          · have hne : (td.kids[j] != st[lo + j]) = true := by simp [he]
            have HF : Hid (termB ts = false) := HNO.out (tstep_none _ (.inr (.inr (.inr (by rw [HLN.out]; exact drop_ne hjl hlj he)))))
            clear he HJ
            go_wp2_with fail
            go_quiet (fail)
            go_wp2_with fail
            go_ret
            exact ⟨.inl ⟨HF.out, rfl⟩, below_drewN (HBL3.out.trans (HBW.out.mono HBL3.out.size)) _⟩
        · have HE : Hid (td.kids = st.drop lo) := drop_eq (by have := HLO2.out; omega) (fun m h1 h2 => HJ.out m h1 h2 (by omega))
          have hjE : j = td.kids.length := by omega
          have hlj' : ¬ (j : Int) < (td.kids.length : Int) := by omega
          subst hjE
          have HGN : Hid (trun (tfieldsB nameB) ts (k + 1) = some (st.take lo ++ [(k : Int)])) := by
            show _ = _
            rw [HGO.out, tstep_some _ (by have := HA.out; omega) (by have := HA.out; have := HLO2.out; omega) HFT.out (by rw [HLN.out]; exact HE.out), HLN.out]
          have HKR0 : Hid (∀ c ∈ td.kids, 0 ≤ c ∧ c < (k : Int)) := fun c hc => HRG.out c (List.mem_of_mem_drop (by rw [← HE.out]; exact hc))
          have HZT : Hid (zI (Zt ts) (k : Int) = zmk td.k td.n (zs.drop lo)) := by
            show _ = _
            rw [HZK.out HKR0.out, HZR.out, ← List.map_drop, ← HE.out]
          have HZN : Hid (zs.take lo ++ [zmk td.k td.n (zs.drop lo)] = (st.take lo ++ [(k : Int)]).map (zI (Zt ts))) := by
            show _ = _
            rw [map_next, HZT.out, ← HZR.out]
          have HPN : Hid (ps.take lo ++ [wr.heap.size] = (st.take lo ++ [(k : Int)]).map (fun c => ptPut pt k wr.heap.size c.toNat)) := by
            show _ = _
            rw [map_next (fun c => ptPut pt k wr.heap.size c.toNat), ptPut_map HRG.out, ← HPR.out]
            simp [ptPut_at]
          have HPK : Hid (td.kids.map (fun c => pt c.toNat) = ps.drop lo) := by
            show _ = _
            rw [HE.out, List.map_drop, ← HPR.out]
          have HPD : Hid (((ps.drop lo).take td.kids.length).map ptrV = (ps.drop lo).map ptrV) := by show _ = _; rw [List.take_of_length_le]; simp; have := HPS.out; have := HLO2.out; omega
          have HPDL : Hid ((ps.drop lo).length = td.kids.length) := by show _ = _; simp; have := HPS.out; have := HLO2.out; omega
          have HKQ := hide (PtrRowQ.own (w := wr) (ps := ps.drop lo) (by rw [← HPD.out]; exact HRW.out) HPDL.out.symm)
          have HKR := hide (PtrRow.own (w := wr) (ps := ps.drop lo) (by rw [← HPD.out]; exact HRW.out) HPDL.out.symm)
          have hcs := ownsRow_cap HS3.out
          have hct := ownsRow_cap (show w3.ownsRow _ 3 1 _ _ _ from HT3.out)
          have bcs : (lo : Int) ≤ (cs : Int) := by omega
          have bct : (lo : Int) ≤ (ct : Int) := by omega
          have hsl : ∀ W : World, (Instr.slice 55 (.slice (some ⟨gs, 0, none⟩) st.length cs) none (some (.int .i64 (lo : Int))) none).run Tryz.prog W = .ok (.slice (some ⟨gs, 0, none⟩) lo cs) W := fun W => by
            rw [run_slice_h W 55 (some ⟨gs, 0, none⟩) st.length cs (by kernel_rfl) .i64 (lo : Int) (by omega) bcs]
            simp [sliced, go_sem]
          have hslt : ∀ W : World, (Instr.slice 52 (.slice (some ⟨gt, 0, none⟩) st.length ct) none (some (.int .i64 (lo : Int))) none).run Tryz.prog W = .ok (.slice (some ⟨gt, 0, none⟩) lo ct) W := fun W => by
            rw [run_slice_h W 52 (some ⟨gt, 0, none⟩) st.length ct (by kernel_rfl) .i64 (lo : Int) (by omega) bct]
            simp [sliced, go_sem]
          have n0 := keep_cell HBW.out n0
          have n1 := keep_cell HBW.out n1
          have n2 := keep_cell HBW.out n2
          have n3 := keep_cell HBW.out n3
          have HSC := hide (ownsRow_cut (row_keep HBW.out HS3.out) lo hlole)
          have HT5 := hide (HT3.out.keep HBW.out)
          have HX5 := hide (keep_cell HBW.out hx3)
          have HSZ5 := hide (fun q (h1 : q < ps.length) (h2 : q < zs.length) => (HSZ3.out q h1 h2).keep HBW.out)
          have HLR5 := hide (HLR.out.keep HBW.out)
          have HDL : Hid ((zs.drop lo).length = (ps.drop lo).length) := by show _ = _; simp; have := HPS.out; have := HZS.out; omega
          have HDZ : Hid (∀ q (h1 : q < (ps.drop lo).length) (h2 : q < (zs.drop lo).length), SzAt wr (ps.drop lo)[q] (zs.drop lo)[q]) := by
            intro q h1 h2
            rw [List.getElem_drop, List.getElem_drop]
            exact HSZ5.out (lo + q) (by simp at h1; omega) (by simp at h2; omega)
          have HDO : Hid (∀ z ∈ zs.drop lo, ZOk z) := fun z hz => HZO.out z (List.mem_of_mem_drop hz)
          have HDS : Hid (1 + sumZ (zs.drop lo) ≤ 20000) := by
            show _ ≤ _
            have h1 := sumZ_split zs lo
            have h2 := sumZ_nonneg (zs.take lo) (fun z hz => (HZO.out z (List.mem_of_mem_take hz)).1)
            have h3 := HSM.out
            omega
          have HK1 : Hid (td.k = 1 → ps.drop lo = []) := by
            intro h
            have h1 := HA.out
            rw [h] at h1
            have h2 : tkidsN 1 = 0 := rfl
            apply List.eq_nil_of_length_eq_zero
            rw [HPDL.out]; omega
          have HBL5 := hide (HBL3.out.trans (HBW.out.mono HBL3.out.size))
          have hgs := (HS3.out.lt gs rfl)
          have HGS := hide hgs
          clear hcs hct hgs HJ
          go_wp2_with fail
          go_region_held3 (fun w' => w'.cell? ⟨wo.heap.size, 0, none⟩ = some (.int .i64 td.k) ∧ w'.cell? ⟨wo.heap.size, 1, none⟩ = some (.int .i64 td.n) ∧ w'.cell? ⟨wo.heap.size, 2, none⟩ = some (.int .i64 td.m) ∧ w'.cell? ⟨wo.heap.size, 3, none⟩ = some (.string td.s))
            (first
              | go_keep
              | (go_split_ands
                 exact ⟨keep_cell hb6 (by assumption), keep_cell hb6 (by assumption), keep_cell hb6 (by assumption), keep_cell hb6 (by assumption)⟩)
              | (go_split_ands
                 refine ⟨?_, ?_, ?_, ?_⟩
                 · (rw [hgrow.cell_far _ (by simp; omega) (by simp [Value.ownBlock]; omega)]; assumption)
                 · (rw [hgrow.cell_far _ (by simp; omega) (by simp [Value.ownBlock]; omega)]; assumption)
                 · (rw [hgrow.cell_far _ (by simp; omega) (by simp [Value.ownBlock]; omega)]; assumption)
                 · (rw [hgrow.cell_far _ (by simp; omega) (by simp [Value.ownBlock]; omega)]; assumption))
              | fail)
            (first
              | (go_at_call 25
                 refine (l3Make_any td.k td.n td.m td.s _ _ _ (ps.drop lo) (zs.drop lo) _ (by exact (HLR5.out.keep (below_drewN (Below.refl _ _) _)).row) (by exact HKR.out.keep (below_drewN (Below.refl _ _) _)) HDL.out (fun q h1 h2 => by exact (HDZ.out q h1 h2).keep (below_drewN (Below.refl _ _) _)) HDO.out HDS.out HNB.out HK1.out).mono ?_
                 rintro e w6 ⟨he, htn6, hb6⟩; have he : e = .returned (.pointer (some ⟨wr.heap.size, 0, none⟩)) := he; subst he; have hsz6 : wr.heap.size ≤ w6.heap.size := hb6.size)
              | (refine step_append_lies _ (by rfl) _ _ _ (by rfl) (w.heap.size + 1) 39 ip (.pointer none) 1 8 Tryz.underlying55 hip hzp hsp hbp rfl (by omega) (.slice (some ⟨gs, 0, none⟩) lo cs) lo ((ps.map ptrV).take lo) (by rfl) ((row_keep hb6 (show wr.drew.ownsRow _ _ _ _ _ _ from HSC.out)).alloc _) ⟨w6.heap.size, 0, none⟩ 1 1 [.pointer (some ⟨wr.heap.size, 0, none⟩)] (by rfl) (by rfl) (by exact cell_one_new _ _ _) (by simp [Value.oneCell']) (by omega) (by unfold maxLen; omega) (by omega) (by simp; omega) (w6.heap.size + 1) (by simp) ?_
                 intro gg cap2 w7 hown7 hgrow hat hlt7)
              | fail)
          have rowS := (row_keep hb6 (show wr.drew.ownsRow _ _ _ _ _ _ from HSC.out)).alloc (.cells #[.pointer (some ⟨wr.heap.size, 0, none⟩)] 39)
          have HT6 := hide (OwnI.take (show OwnI (w.heap.size + 1) w6 gt ct st from row_keep hb6 (show wr.drew.ownsRow _ _ _ _ _ _ from HT5.out)) lo hlole)
          have hgts : gt ≠ gs := rows_ne (HT6.out.alloc (.cells #[.pointer (some ⟨wr.heap.size, 0, none⟩)] 39)) rowS (by decide)
          have HT7 := hide ((HT6.out.alloc (.cells #[.pointer (some ⟨wr.heap.size, 0, none⟩)] 39)).kept hgrow (.inr (by simp [Value.ownBlock]; exact hgts)))
          have hsz7 : w6.heap.size + 1 ≤ w7.heap.size := by have := hgrow.size; simpa using this
          have HX6 := hide (keep_cell hb6 (show wr.drew.cell? _ = _ from HX5.out))
          have hx7 : w7.cell? ⟨w.heap.size, 0, none⟩ = some (.slice (some ⟨b, off, none⟩) ts.length cap) := by
            rw [hgrow.cell_far _ (by simp; omega) (by simp [Value.ownBlock]; omega)]
            exact keep_cell (bel_alloc (Below.refl _ _) _) HX6.out
          have HB7 := hide ((((HBL5.out.drew.trans (hb6.mono (by show w.heap.size ≤ wr.heap.size; omega))).alloc (by omega) (.cells #[.pointer (some ⟨wr.heap.size, 0, none⟩)] 39)).grown hgrow (by simp; omega) (fun q hq => by simp [Value.ownBlock] at hq; omega)))
          have KC7 : Hid (Carry (fun b => b ≠ gs ∧ b ≠ gt ∧ w.heap.size ≤ b) (fun b => b ≠ gg ∧ b ≠ gt ∧ w.heap.size ≤ b) w6 w7) := (Carry.below (bel_alloc (Below.refl _ _) _)).trans (Carry.grown rowS (by decide) (by decide) hgrow (fun b hb hl => ⟨hb.1, ne_new hat hb.1 (by simpa using hl), hb.2⟩)) (by simp)
          have HN6 := hide (show FnAt (fun b => b ≠ gs ∧ b ≠ gt ∧ w.heap.size ≤ b) w6 wr.heap.size td (td.kids.map (fun c => pt c.toNat)) (zI (Zt ts) (k : Int)) from ⟨_, _, by rw [HZT.out]; exact TnAt.base htn6 (Nat.zero_le _), by rw [HPK.out]; exact (HKQ.out.to (R := fun b => b ≠ gs ∧ b ≠ gt ∧ w.heap.size ≤ b) (w' := w6) (fun b hb hl => ⟨by omega, fun o u hu => keep_cell hb6 hu⟩)), (HLR5.out.keep (below_drewN (Below.refl _ _) 1)).keep hb6⟩)
          have HF6 := hide (HFO.out.to (Carry.below (HBQ3.out.trans ((HBW.out.drew.trans (hb6.mono hszw)).mono (by omega)))))
          have HF6n := hide (HFN.out _ _ _ HKR0.out HF6.out HN6.out)
          have HOWN7 := hide hown7
          clear hown7 hgrow hat hlt7 rowS htn6 hb6 HSC HT5 HX5 HSZ5 HT6 HX6
          go_wp2_with (at_builtin; refine wpList_append_lies _ rfl _ _ 52 rfl (w.heap.size + 1) 3 i3 (.int .i64 0) 1 8 Tryz.underlying52 hi3 hz3 hs3 hb3 rfl (by omega) (.slice (some ⟨gt, 0, none⟩) lo ct) lo ((st.take lo).map (Value.int .i64)) rfl (HT7.out.alloc _) ⟨w7.heap.size, 0, none⟩ 1 1 [.int .i64 (k : Int)] rfl rfl ?c1 ?c2 (by omega) ?c3 ?c4 ?c5 (w7.heap.size + 1) (by simp) ?_)
          case c1 => exact cell_one_new _ _ _
          case c2 => first | rfl | (intro u hu; simp at hu; subst hu; rfl)
          case c3 => unfold maxLen; omega
          case c4 => omega
          case c5 => simp; omega
          intro g8 cap8 w8 hown8 hgrow8 hat8 hlt8
          have rowT := HT7.out.alloc (.cells #[.int .i64 (k : Int)] 3)
          have hggt : gg ≠ gt := rows_ne (HOWN7.out.alloc (.cells #[.int .i64 (k : Int)] 3)) rowT (by decide)
          have HS8 := hide ((HOWN7.out.alloc (.cells #[.int .i64 (k : Int)] 3)).kept hgrow8 (.inr (by simp [Value.ownBlock]; exact hggt)))
          have KC8 : Hid (Carry (fun b => b ≠ gg ∧ b ≠ gt ∧ w.heap.size ≤ b) (fun b => b ≠ gg ∧ b ≠ g8 ∧ w.heap.size ≤ b) w7 w8) := (Carry.below (bel_alloc (Below.refl _ _) _)).trans (Carry.grown rowT (by decide) (by decide) hgrow8 (fun b hb hl => ⟨hb.2.1, hb.1, ne_new hat8 hb.2.1 (by simpa using hl), hb.2.2⟩)) (by simp)
          have HF8 := hide ((HF6n.out.to KC7.out).to KC8.out)
          have HX8 : Hid (w8.cell? ⟨w.heap.size, 0, none⟩ = some (.slice (some ⟨b, off, none⟩) ts.length cap)) := by
            show _ = _
            rw [hgrow8.cell_far _ (by simp; omega) (by simp [Value.ownBlock]; omega)]
            exact keep_cell (bel_alloc (Below.refl _ _) _) hx7
          have HB8 := hide ((HB7.out.alloc (by omega) (.cells #[.int .i64 (k : Int)] 3)).grown hgrow8 (by simp; omega) (fun q hq => by simp [Value.ownBlock] at hq; omega))
          have HLEN : Hid ((st.take lo ++ [(k : Int)]).length = lo + 1) := by show _ = _; simp; omega
          have HLENP : Hid ((ps.take lo ++ [wr.heap.size]).length = lo + 1) := by show _ = _; have := HPS.out; simp; omega
          have HLENZ : Hid ((zs.take lo ++ [zmk td.k td.n (zs.drop lo)]).length = lo + 1) := by show _ = _; have := HZS.out; simp; omega
          have HZO8 := hide (zok_next (lo := lo) HZO.out HNB.out)
          have HSM8 := hide (sum_next (k := td.k) (n := td.n) (lo := lo) HSM.out)
          have HOWN8 := hide hown8
          clear hown8 hgrow8 hat8 hlt8 rowT
          go_wp2_with fail
          go_roundw
          case rel => exact ⟨k + 1, gg, cap2, g8, cap8, st.take lo ++ [(k : Int)], ps.take lo ++ [wr.heap.size], zs.take lo ++ [zmk td.k td.n (zs.drop lo)], ptPut pt k wr.heap.size, by omega, by go_num, HGN, by rw [HLEN.out]; omega, by rw [HLEN.out], by rw [HLEN.out], by show _ = _; rw [HLEN.out, HLENP.out], by show _ = _; rw [HLEN.out, HLENZ.out], HZN, HPN, HKN.out HKR0.out, HZO8, HSM8, by rw [HLEN.out, List.map_append, List.map_take]; exact HS8.out, by show OwnI _ _ _ _ _; unfold OwnI; rw [HLEN.out, List.map_append, List.map_take]; exact HOWN8.out, HF8, HX8.out, HB8, (fun i hi => ptPut_ge HBL5.out.size HPT.out hi)⟩
          case measure => simp [intOf]; omega
    · have hke : k = ts.length := by omega
      have HR2 : Hid (trun (tfieldsB nameB) ts ts.length = some st) := by have := HR.out; rwa [hke] at this
      have hlt' : ¬ (k : Int) < ts.length := by omega
      have HF : Hid (termB ts = decide (st.length = 1)) := by show _ = _; simp [termB, termB', HR2.out]; omega
      by_cases h1 : st.length = 1
      · obtain ⟨z, rfl⟩ := one_of_len (show zs.length = 1 by have := HZS.out; omega)
        obtain ⟨pp, rfl⟩ := one_of_len (show ps.length = 1 by have := HPS.out; omega)
        have hsz1 : z.sz = (k : Int) := by have := HSM.out; simp [sumZ] at this; exact this
        have HSP := hide (HSZ.out 0 (by simp) (by simp))
        obtain ⟨y6, _, _, _⟩ := (show SzAt wr pp z from HSP.out).cells
        have hcell := HS.out.cellAt 0 (by omega)
        have hcell' : wr.cell? ⟨gs, 0, none⟩ = some (.pointer (some ⟨pp, 0, none⟩)) := by rw [hcell]; rfl
        have hq1 : ((st.length : Int) != 1) = false := by simp; omega
        have hpos : (0 : Int) < (st.length : Int) := by omega
        have HD : Hid (decide (20000 < z.sz) = false) := by show _ = _; simp; omega
        have HFT : Hid (termB ts = true) := by show _ = _; rw [HF.out]; simp [h1]
        have HRT : Hid (pp = pt (ts.length - 1)) := by
          show _ = _
          obtain ⟨n, hn⟩ : ∃ n, ts.length = n + 1 := ⟨ts.length - 1, by omega⟩
          have h2 := HR2.out
          rw [hn] at h2
          obtain ⟨l, hl2⟩ := trun_last h2
          have h3 : l = [] := by rw [hl2] at h1; simpa using h1
          have h4 := HPR.out
          rw [hl2, h3] at h4
          simp at h4
          rw [h4, hn]; rfl
        have HKF : Hid (KidsIn ts ts.length) := by have := HKI.out; rwa [hke] at this
        have HPTF : Hid (∀ i, i < ts.length → w.heap.size ≤ pt i) := by have := HPT.out; rwa [hke] at this
        have HFF : Hid (Forest (fun b => b ≠ gs ∧ b ≠ gt ∧ w.heap.size ≤ b) wr pt ts ts.length) := by have := HFO.out; rwa [hke] at this
        clear hcell h1 hke hsz1
        go_wp2_with (go_at_call 26; refine (l3Great_any _ _ _ y6).mono ?_; rintro e w' ⟨rfl, hw⟩; have hw := hw.symm; subst hw; rw [HD.out])
        go_ret
        exact ⟨.inr ⟨HFT.out, HKF.out, pt, _, by rw [HRT.out]; rfl, HFF.out, HPTF.out, fun b hb => hb.2.2⟩, HBL.out⟩
      · have hq1 : ((st.length : Int) != 1) = true := by rw [bne_iff_ne]; omega
        have HFT : Hid (termB ts = false) := by show _ = _; rw [HF.out]; simp [h1]
        clear h1 hke
        go_wp2_with fail
        go_ret
        exact ⟨.inl ⟨HFT.out, rfl⟩, HBL.out⟩
end Go.Proofs.YtcagcfhnbphggaaGreatDoor
