/- What the specification's l3SameLevels and l3Same answer. -/
import Derived.Test.YtgomimhelgjddaaGreatSmL
import Derived.Test.YtgomimhelgjddaaGreatTFTree
namespace Go.Proofs.YtgomimhelgjddaaGreat
open Go.ChangeShapes Go.WideShapes Go.ChangeAt Go.RowKit

theorem okTree_of {l : List Nd} {t : Tr} (h : LvTree l t) (hf : fitsB t = true) : OkTree l t := by
  unfold fitsB at hf
  simp only [decide_eq_true_eq] at hf
  exact ⟨h.1, h.2.1, h.2.2.1, h.2.2.2, by rw [← h.2.2.2]; exact hf.1, by rw [← h.2.2.1]; exact hf.2⟩

set_option maxRecDepth 20000 in
set_option maxHeartbeats 4000000 in
theorem l3SameLevels_any {Qa Qb : Nat → Prop} (ls ms : List (List Nd)) (v1 v2 : Value) (w : World) (h1 : LevRowF Qa w v1 ls) (h2 : LevRowF Qb w v2 ms) :
    Calls Tryz.prog 61 #[v1, v2] w fun e w' => e = .returned (.bool (lvsB ls ms)) ∧ Below w.heap.size w w' := by
  obtain ⟨ps, us, hp, ⟨a1, cap1, rfl, hl1, hm1, hc1⟩, ht1, hr1⟩ := h1
  obtain ⟨qs, vs, hq, ⟨a2, cap2, rfl, hl2, hm2, hc2⟩, ht2, hr2⟩ := h2
  unfold maxLen at hm1 hm2
  have H1 := hide hc1
  have H2 := hide hc2
  have HT1 := hide ht1
  have HT2 := hide ht2
  have HR1 := hide hr1
  have HR2 := hide hr2
  have hp2 := hp
  have hq2 := hq
  rw [hp] at hl1 ⊢
  rw [hq] at hl2 ⊢
  clear hc1 hc2 ht1 ht2 hr1 hr2
  by_cases hlen : ls.length = ms.length
  · have hqq : ((ls.length : Int) != (ms.length : Int)) = false := by simp [hlen]
    have HLE := hide hlen
    have hle : ls.length ≤ ms.length := by omega
    clear hlen
    go_enter Tryz.func61, Tryz.ntmps61
    go_wp2_with fail
    go_loopw [5] (fun i wr => ∃ (k : Nat), k ≤ ls.length ∧ i = .int .i64 k ∧ Hid (Below w.heap.size w wr) ∧ Hid (∀ j (h : j < ls.length) (h2 : j < ms.length), j < k → sameLv ls[j] ms[j] = true)) (fun i _ => ls.length - (intOf i).toNat)
    case atStart => exact ⟨0, by omega, rfl, Below.refl _ _, fun j _ _ h => by omega⟩
    case round =>
      obtain ⟨k, hk, rfl, HB, HA⟩ := hrel
      by_cases hlt : k < ls.length
      · obtain ⟨b1, o1, rfl, _, c1⟩ := H1.out (by omega)
        obtain ⟨b2, o2, rfl, _, c2⟩ := H2.out (by omega)
        have hlt2 : k < ms.length := by omega
        have hlt' : (k : Int) < ls.length := by omega
        have hlt2' : (k : Int) < ms.length := by omega
        have k1 := c1 k (by omega)
        have k2 := c2 k (by omega)
        simp only [ptrV] at k1 k2
        haveI := bel_ne wr.heap.size wr
        have d1 : ∀ p : Bel wr.heap.size wr, p.w'.cell? ⟨b1, o1 + k, none⟩ = some (.pointer (some ⟨ps[k]'(by omega), 0, none⟩)) := fun p => p.cell (by have := lt_cell (keep_cell HB.out k1); omega) (keep_cell HB.out k1)
        have d2 : ∀ p : Bel wr.heap.size wr, p.w'.cell? ⟨b2, o2 + k, none⟩ = some (.pointer (some ⟨qs[k]'(by omega), 0, none⟩)) := fun p => p.cell (by have := lt_cell (keep_cell HB.out k2); omega) (keep_cell HB.out k2)
        have hus : k < us.length := by have := HR1.out.1; omega
        have hvs : k < vs.length := by have := HR2.out.1; omega
        have HC : Hid (∀ p : Bel wr.heap.size wr, Calls Tryz.prog 104 #[.pointer (some ⟨ps[k]'(by omega), 0, none⟩), .pointer (some ⟨qs[k]'(by omega), 0, none⟩)] p.w' fun e w' => e = .returned (.bool (sameLv ls[k] ms[k])) ∧ Below p.w'.heap.size p.w' w') := fun p =>
          l1Same_any _ _ us[k] vs[k] _ _ p.w' (((HT1.out.keep HB.out).keep p.h).1.2 k (by omega) hus) (((HT2.out.keep HB.out).keep p.h).1.2 k (by omega) hvs) (okTree_of (HR1.out.2 k hlt hus) (HT1.out.2 _ (List.getElem_mem hus))) (okTree_of (HR2.out.2 k hlt2 hvs) (HT2.out.2 _ (List.getElem_mem hvs)))
        have HN : Hid (sameLv ls[k] ms[k] = true → ∀ j (h : j < ls.length) (h2 : j < ms.length), j < k + 1 → sameLv ls[j] ms[j] = true) := by
          intro he j h h2 hj
          by_cases e : j = k
          · subst e; exact he
          · exact HA.out j h h2 (by omega)
        have HNO : Hid (sameLv ls[k] ms[k] = false → lvsB ls ms = false) := fun h => lvsB_bad k hlt hlt2 h
        generalize ps[k]'(by omega) = P1 at *
        generalize qs[k]'(by omega) = P2 at *
        generalize sameLv ls[k] ms[k] = bb at *
        clear c1 c2 H1 H2 k1 k2 HA
        go_wp2_with fail
        refine wp_region_belH wr.heap.size (by kernel_rfl) (by kernel_rfl) (fun Q' hQ' => ?_)
        repeat (refine QW.step (fun K hK => ?_); go_simp; first | (refine hK _ ?_; clear hK K) | (apply Exists.intro; refine ⟨fun _ => ?_, hK _ ?_⟩; (first | (go_at_call 104; exact calls_bel (Nat.le_refl _) (HC.out _))); clear hK K))
        refine QW.nil ?_
        refine hQ'.out _ (fun p => ?_)
        clear hQ'
        cases bb
        · have HF := hide (HNO.out rfl)
          go_wp2_with fail
          go_ret
          exact ⟨ret_bool HF.out.symm, bel_trans HB.out p.h⟩
        · have HG := hide (HN.out rfl)
          go_wp2_with fail
          go_roundw
          case rel => exact ⟨k + 1, by omega, by go_num, bel_trans HB.out p.h, HG⟩
          case measure => simp [intOf]; omega
      · have HE : Hid (lvsB ls ms = true) := lvsB_good HLE.out (fun j h h2 => HA.out j h h2 (by omega))
        have hlt' : ¬ (k : Int) < ls.length := by omega
        go_wp2_with fail
        go_ret
        exact ⟨ret_bool HE.out.symm, HB.out⟩
  · have hqq : ((ls.length : Int) != (ms.length : Int)) = true := by rw [bne_iff_ne]; omega
    have HF := hide (lvsB_ne hlen)
    clear hlen
    go_enter Tryz.func61, Tryz.ntmps61
    go_wp2_with fail
    go_ret
    exact ⟨ret_bool HF.out.symm, Below.refl _ _⟩

theorem all2_ne : ∀ {f : Int → Int → Bool} {a b : List Int} (i : Nat) (h1 : i < a.length) (h2 : i < b.length), f a[i] b[i] = false → all2 f a b = false
  | f, _ :: ls, _ :: ms, 0, _, _, h => by simp only [all2]; simp at h; rw [h]; rfl
  | f, _ :: ls, _ :: ms, i + 1, h1, h2, h => by
    simp only [all2]
    rw [all2_ne i (by simpa using h1) (by simpa using h2) (by simpa using h)]; simp
theorem all2_good : ∀ {f : Int → Int → Bool} {a b : List Int}, a.length = b.length → (∀ i (h1 : i < a.length) (h2 : i < b.length), f a[i] b[i] = true) → all2 f a b = true
  | f, [], [], _, _ => rfl
  | f, l :: ls, m :: ms, hl, h => by
    simp only [all2, Bool.and_eq_true]
    exact ⟨h 0 (by simp) (by simp), all2_good (by simpa using hl) (fun i h1 h2 => by have := h (i + 1) (by simpa using h1) (by simpa using h2); simpa using this)⟩
  | f, [], _ :: _, hl, _ => by simp at hl
  | f, _ :: _, [], hl, _ => by simp at hl

section
variable (ta tb : List Td) (pa pb : Nat → Nat)
/-- What is said of l3Same at two nodes. -/
def SameIH (n : Nat) : Prop := ∀ (i j : Nat) (w : World) (Qa Qb : Nat → Prop), i < n → i < ta.length → j < tb.length → Forest Qa w pa ta ta.length → Forest Qb w pb tb tb.length → Calls Tryz.prog 37 #[.pointer (some ⟨pa i, 0, none⟩), .pointer (some ⟨pb j, 0, none⟩)] w fun e w' => e = .returned (.bool (sameF hs ta tb n (i : Int) (j : Int))) ∧ Below w.heap.size w w'
end
theorem SameIH.at {ta tb : List Td} {pa pb : Nat → Nat} {n : Nat} (h : SameIH ta tb pa pb n) (c d : Int) (c0 : 0 ≤ c) (d0 : 0 ≤ d) (w : World) (Qa Qb : Nat → Prop) (hn : c < n) (hc : c < ta.length) (hd : d < tb.length) (Fa : Forest Qa w pa ta ta.length) (Fb : Forest Qb w pb tb tb.length) :
    Calls Tryz.prog 37 #[.pointer (some ⟨pa c.toNat, 0, none⟩), .pointer (some ⟨pb d.toNat, 0, none⟩)] w fun e w' => e = .returned (.bool (sameF hs ta tb n c d)) ∧ Below w.heap.size w w' := by
  have h2 := h c.toNat d.toNat w Qa Qb (by omega) (by omega) (by omega) Fa Fb
  rw [Int.toNat_of_nonneg c0, Int.toNat_of_nonneg d0] at h2
  exact h2

set_option maxRecDepth 40000 in
set_option maxHeartbeats 16000000 in
theorem l3Same_step {ta tb : List Td} {pa pb : Nat → Nat} (ha : termB ta = true) (hb : termB tb = true) (hne : ∀ i j, i < ta.length → j < tb.length → pa i ≠ pb j) (n : Nat) (IH : Hid (SameIH ta tb pa pb n)) : SameIH ta tb pa pb (n + 1) := by
  intro i j w Qa Qb hin hi hj Fa Fb
  have TA := tiledI ha (i : Int) (by omega) (by omega)
  have TB := tiledI hb (j : Int) (by omega) (by omega)
  obtain ⟨lva, kva, tna, pra, lra⟩ := Fa i hi hi
  obtain ⟨lvb, kvb, tnb, prb, lrb⟩ := Fb j hj hj
  have HFA := hide Fa
  have HFB := hide Fb
  have hab := hne i j hi hj
  have HR : Hid (sameF hs ta tb (n + 1) (i : Int) (j : Int) = (hs ta[i] tb[j] && decide ((zI (Zt ta) (i : Int)).sz = (zI (Zt tb) (j : Int)).sz) && decide ((zI (Zt ta) (i : Int)).lo = (zI (Zt tb) (j : Int)).lo) && all2 (sameF hs ta tb n) ta[i].kids tb[j].kids)) := by
    show _ = _
    rw [sameF, show tdI ta (i : Int) = ta[i] from tdI_at hi, show tdI tb (j : Int) = tb[j] from tdI_at hj]; rfl
  have HAR : Hid (ta[i].k = tb[j].k → ta[i].kids.length = tb[j].kids.length) := fun h => by have h1 := TA.arity; have h2 := TB.arity; rw [tdI_at hi] at h1; rw [tdI_at hj, ← h] at h2; omega
  have HKA : Hid (∀ c ∈ ta[i].kids, 0 ≤ c ∧ c < (i : Int)) := by have h := TA.kin; rw [tdI_at hi] at h; exact h
  have HKB : Hid (∀ c ∈ tb[j].kids, 0 ≤ c ∧ c < (j : Int)) := by have h := TB.kin; rw [tdI_at hj] at h; exact h
  clear TA TB Fa Fb
  generalize hx : ta[i] = x at *
  generalize hy : tb[j] = y at *
  generalize zI (Zt ta) (i : Int) = z1 at *
  generalize zI (Zt tb) (j : Int) = z2 at *
  obtain ⟨A, hA⟩ : ∃ A, A = pa i := ⟨_, rfl⟩
  obtain ⟨B, hB⟩ : ∃ B, B = pb j := ⟨_, rfl⟩
  rw [← hA] at tna hab ⊢
  rw [← hB] at tnb hab ⊢
  have hba : ¬ B = A := fun h => hab h.symm
  clear hA hB hx hy
  haveI := bel_ne w.heap.size w
  have hAl := (tna.lt A rfl).2
  have hBl := (tnb.lt B rfl).2
  have a0 : ∀ p : Bel w.heap.size w, p.w'.cell? ⟨A, 0, none⟩ = some (.int .i64 x.k) := fun p => p.cell hAl (by rw [tna.cellAt 0 (by omega)]; rfl)
  have a1 : ∀ p : Bel w.heap.size w, p.w'.cell? ⟨A, 1, none⟩ = some (.int .i64 x.n) := fun p => p.cell hAl (by rw [tna.cellAt 1 (by omega)]; rfl)
  have a3 : ∀ p : Bel w.heap.size w, p.w'.cell? ⟨A, 3, none⟩ = some (.string x.s) := fun p => p.cell hAl (by rw [tna.cellAt 3 (by omega)]; rfl)
  have a4 : ∀ p : Bel w.heap.size w, p.w'.cell? ⟨A, 4, none⟩ = some (lva) := fun p => p.cell hAl (by rw [tna.cellAt 4 (by omega)]; rfl)
  have a5 : ∀ p : Bel w.heap.size w, p.w'.cell? ⟨A, 5, none⟩ = some (kva) := fun p => p.cell hAl (by rw [tna.cellAt 5 (by omega)]; rfl)
  have a6 : ∀ p : Bel w.heap.size w, p.w'.cell? ⟨A, 6, none⟩ = some (.int .i64 z1.sz) := fun p => p.cell hAl (by rw [tna.cellAt 6 (by omega)]; rfl)
  have a7 : ∀ p : Bel w.heap.size w, p.w'.cell? ⟨A, 7, none⟩ = some (.int .i64 z1.lo) := fun p => p.cell hAl (by rw [tna.cellAt 7 (by omega)]; rfl)
  have b0 : ∀ p : Bel w.heap.size w, p.w'.cell? ⟨B, 0, none⟩ = some (.int .i64 y.k) := fun p => p.cell hBl (by rw [tnb.cellAt 0 (by omega)]; rfl)
  have b1 : ∀ p : Bel w.heap.size w, p.w'.cell? ⟨B, 1, none⟩ = some (.int .i64 y.n) := fun p => p.cell hBl (by rw [tnb.cellAt 1 (by omega)]; rfl)
  have b3 : ∀ p : Bel w.heap.size w, p.w'.cell? ⟨B, 3, none⟩ = some (.string y.s) := fun p => p.cell hBl (by rw [tnb.cellAt 3 (by omega)]; rfl)
  have b4 : ∀ p : Bel w.heap.size w, p.w'.cell? ⟨B, 4, none⟩ = some (lvb) := fun p => p.cell hBl (by rw [tnb.cellAt 4 (by omega)]; rfl)
  have b5 : ∀ p : Bel w.heap.size w, p.w'.cell? ⟨B, 5, none⟩ = some (kvb) := fun p => p.cell hBl (by rw [tnb.cellAt 5 (by omega)]; rfl)
  have b6 : ∀ p : Bel w.heap.size w, p.w'.cell? ⟨B, 6, none⟩ = some (.int .i64 z2.sz) := fun p => p.cell hBl (by rw [tnb.cellAt 6 (by omega)]; rfl)
  have b7 : ∀ p : Bel w.heap.size w, p.w'.cell? ⟨B, 7, none⟩ = some (.int .i64 z2.lo) := fun p => p.cell hBl (by rw [tnb.cellAt 7 (by omega)]; rfl)
  have HLV : Hid (∀ p : Bel w.heap.size w, Calls Tryz.prog 61 #[lva, lvb] p.w' fun e w' => e = .returned (.bool (lvsB x.lv y.lv)) ∧ Below p.w'.heap.size p.w' w') := fun p => l3SameLevels_any _ _ _ _ _ (lra.keep p.h) (lrb.keep p.h)
  have HPA := hide pra
  have HPB := hide prb
  obtain ⟨la1, ln1, lc1, hlva⟩ : ∃ a n c, lva = .slice a n c := by obtain ⟨ps, us, h1, ⟨a, c, h2, _⟩, _⟩ := lra; exact ⟨a, _, c, h2⟩
  obtain ⟨la2, ln2, lc2, hlvb⟩ : ∃ a n c, lvb = .slice a n c := by obtain ⟨ps, us, h1, ⟨a, c, h2, _⟩, _⟩ := lrb; exact ⟨a, _, c, h2⟩
  subst hlva hlvb
  obtain ⟨ka1, kc1, hkva, hkl1, hkm1, hkc1⟩ := pra
  obtain ⟨ka2, kc2, hkvb, hkl2, hkm2, hkc2⟩ := prb
  rw [List.length_map] at hkva hkvb hkl1 hkl2
  subst hkva hkvb
  have HKC1 := hide hkc1
  have HKC2 := hide hkc2
  have HKL : Hid (∀ b : Bool, b = lvsB x.lv y.lv → hs x y = (decide (x.k = y.k) && decide (x.n = y.n) && (bindsB x.k || decide (x.s = y.s)) && b)) := fun b h => by rw [h]; rfl
  obtain ⟨csa, hka⟩ := row_tag tna
  obtain ⟨csb, hkb⟩ := row_tag tnb
  clear tna tnb lra lrb hkc1 hkc2
  unfold maxLen at hkm1 hkm2
  have hpe : (binOp .eql 43 (.pointer (some ⟨A, 0, none⟩)) (.pointer (some ⟨B, 0, none⟩))).run Tryz.prog w = .ok (.bool false) w := by
    obtain ⟨jj, hjj, hjs⟩ := info_size Tryz.inf84
    exact run_eql_ptr_other (P := Tryz.prog) w (tp := 43) (te := 84) (a := ⟨A, 0, none⟩) (b := ⟨B, 0, none⟩) (by kernel_rfl) hjj (by omega) (fun h => hab (by injection h)) hka hkb
  clear hka hkb hba hab
  go_enter Tryz.func37, Tryz.ntmps37
  go_wp2_with fail
  simp only [List.append]
  refine wp_region_belH w.heap.size (by kernel_rfl) (by kernel_rfl) (fun Q' hQ' => ?_)
  by_cases hk : x.k = y.k
  case neg =>
    have qk : (x.k != y.k) = true := by rw [bne_iff_ne]; exact hk
    have HRF : Hid (sameF hs ta tb (n + 1) (i : Int) (j : Int) = false) := by show _ = _; rw [HR.out]; unfold hs; simp [hk]
    clear HLV
    clear HR HKL
    repeat (refine QW.step (fun K hK => ?_); go_simp; first | (refine hK _ ?_; clear hK K) | (apply Exists.intro; refine ⟨fun _ => ?_, hK _ ?_⟩; (fail); clear hK K))
    refine QW.nil ?_
    refine hQ'.out _ (fun p => ?_)
    clear hQ'
    go_wp2_with fail
    go_ret
    exact ⟨ret_bool HRF.out.symm, p.h⟩
  have qk : (x.k != y.k) = false := by simp [hk]
  have HKE := hide (HAR.out hk)
  have HK := hide hk
  clear hk HAR
  by_cases hn : x.n = y.n
  case neg =>
    have qn : (x.n != y.n) = true := by rw [bne_iff_ne]; exact hn
    have HRF : Hid (sameF hs ta tb (n + 1) (i : Int) (j : Int) = false) := by show _ = _; rw [HR.out]; unfold hs; simp [hn]
    clear HLV
    clear HR HKL
    repeat (refine QW.step (fun K hK => ?_); go_simp; first | (refine hK _ ?_; clear hK K) | (apply Exists.intro; refine ⟨fun _ => ?_, hK _ ?_⟩; (fail); clear hK K))
    refine QW.nil ?_
    refine hQ'.out _ (fun p => ?_)
    clear hQ'
    go_wp2_with fail
    go_ret
    exact ⟨ret_bool HRF.out.symm, p.h⟩
  have qn : (x.n != y.n) = false := by simp [hn]
  have HN := hide hn
  clear hn
  by_cases hz : z1.sz = z2.sz
  case neg =>
    have qz : (z1.sz != z2.sz) = true := by rw [bne_iff_ne]; exact hz
    have HRF : Hid (sameF hs ta tb (n + 1) (i : Int) (j : Int) = false) := by show _ = _; rw [HR.out]; simp [hz]
    clear HLV
    clear HR HKL
    repeat (refine QW.step (fun K hK => ?_); go_simp; first | (refine hK _ ?_; clear hK K) | (apply Exists.intro; refine ⟨fun _ => ?_, hK _ ?_⟩; (fail); clear hK K))
    refine QW.nil ?_
    refine hQ'.out _ (fun p => ?_)
    clear hQ'
    go_wp2_with fail
    go_ret
    exact ⟨ret_bool HRF.out.symm, p.h⟩
  have qz : (z1.sz != z2.sz) = false := by simp [hz]
  have HZ := hide hz
  clear hz
  by_cases hlo : z1.lo = z2.lo
  case neg =>
    have qlo : (z1.lo != z2.lo) = true := by rw [bne_iff_ne]; exact hlo
    have HRF : Hid (sameF hs ta tb (n + 1) (i : Int) (j : Int) = false) := by show _ = _; rw [HR.out]; simp [hlo]
    clear HLV
    clear HR HKL
    repeat (refine QW.step (fun K hK => ?_); go_simp; first | (refine hK _ ?_; clear hK K) | (apply Exists.intro; refine ⟨fun _ => ?_, hK _ ?_⟩; (fail); clear hK K))
    refine QW.nil ?_
    refine hQ'.out _ (fun p => ?_)
    clear hQ'
    go_wp2_with fail
    go_ret
    exact ⟨ret_bool HRF.out.symm, p.h⟩
  have qlo : (z1.lo != z2.lo) = false := by simp [hlo]
  have HLO := hide hlo
  clear hlo
  generalize hlb : lvsB x.lv y.lv = lb at *
  by_cases hsb : x.s = y.s ∨ bindsB x.k = true
  case neg =>
    have hs1 : ¬ x.s = y.s := fun h => hsb (.inl h)
    have hb1 : bindsB x.k = false := by cases h : bindsB x.k; rfl; exact absurd (.inr h) hsb
    have HBD : Hid (∀ p : Bel w.heap.size w, Calls Tryz.prog 60 #[.int .i64 x.k] p.w' fun e w' => e = .returned (.bool false) ∧ w' = p.w') := fun p => by have h := l3Binds_any x.k p.w'; rw [hb1] at h; exact h
    have qs : (x.s.toList == y.s.toList) = false := by rw [beq_bytes]; simp [hs1]
    have qs2 : (x.s.toList != y.s.toList) = true := by rw [bne, qs]; rfl
    have HRF : Hid (sameF hs ta tb (n + 1) (i : Int) (j : Int) = false) := by show _ = _; rw [HR.out]; rw [HKL.out lb rfl]; simp [hs1, hb1]
    clear HLV hsb hs1
    clear HR HKL
    repeat (refine QW.step (fun K hK => ?_); go_simp; first | (refine hK _ ?_; clear hK K) | (apply Exists.intro; refine ⟨fun _ => ?_, hK _ ?_⟩; (first | (go_at_call 60; exact calls_bel_same (HBD.out _))); clear hK K))
    refine QW.nil ?_
    refine hQ'.out _ (fun p => ?_)
    clear hQ'
    go_wp2_with fail
    go_ret
    exact ⟨ret_bool HRF.out.symm, p.h⟩
  cases lb with
  | false =>
    by_cases hs1 : x.s = y.s
    · have qs : (x.s.toList == y.s.toList) = true := by rw [beq_bytes]; simp [hs1]
      have qs2 : (x.s.toList != y.s.toList) = false := by rw [bne, qs]; rfl
      have HRF : Hid (sameF hs ta tb (n + 1) (i : Int) (j : Int) = false) := by show _ = _; rw [HR.out, HKL.out false rfl]; simp
      clear HR HKL hlb hsb hs1
      repeat (refine QW.step (fun K hK => ?_); go_simp; first | (refine hK _ ?_; clear hK K) | (apply Exists.intro; refine ⟨fun _ => ?_, hK _ ?_⟩; (first | (go_at_call 61; exact calls_bel (Nat.le_refl _) (HLV.out _))); clear hK K))
      refine QW.nil ?_
      refine hQ'.out _ (fun p => ?_)
      clear hQ'
      go_wp2_with fail
      go_ret
      exact ⟨ret_bool HRF.out.symm, p.h⟩
    · have hb1 : bindsB x.k = true := by rcases hsb with h | h; exact absurd h hs1; exact h
      have HBD : Hid (∀ p : Bel w.heap.size w, Calls Tryz.prog 60 #[.int .i64 x.k] p.w' fun e w' => e = .returned (.bool true) ∧ w' = p.w') := fun p => by have h := l3Binds_any x.k p.w'; rw [hb1] at h; exact h
      have qs : (x.s.toList == y.s.toList) = false := by rw [beq_bytes]; simp [hs1]
      have qs2 : (x.s.toList != y.s.toList) = true := by rw [bne, qs]; rfl
      have HRF : Hid (sameF hs ta tb (n + 1) (i : Int) (j : Int) = false) := by show _ = _; rw [HR.out, HKL.out false rfl]; simp
      clear HR HKL hlb hsb hs1
      repeat (refine QW.step (fun K hK => ?_); go_simp; first | (refine hK _ ?_; clear hK K) | (apply Exists.intro; refine ⟨fun _ => ?_, hK _ ?_⟩; (first | (go_at_call 61; exact calls_bel (Nat.le_refl _) (HLV.out _)) | (go_at_call 60; exact calls_bel_same (HBD.out _))); clear hK K))
      refine QW.nil ?_
      refine hQ'.out _ (fun p => ?_)
      clear hQ'
      go_wp2_with fail
      go_ret
      exact ⟨ret_bool HRF.out.symm, p.h⟩
  | true =>
    have HRT : Hid (sameF hs ta tb (n + 1) (i : Int) (j : Int) = all2 (sameF hs ta tb n) x.kids y.kids) := by
      show _ = _
      rw [HR.out, HKL.out true rfl]
      rcases hsb with h | h <;> simp [HK.out, HN.out, HZ.out, HLO.out, h]
      all_goals (rw [← HK.out]; simp [h])
    clear HR HKL hlb
    by_cases hs1 : x.s = y.s
    · have qs : (x.s.toList == y.s.toList) = true := by rw [beq_bytes]; simp [hs1]
      have qs2 : (x.s.toList != y.s.toList) = false := by rw [bne, qs]; rfl
      clear hsb hs1
      repeat (refine QW.step (fun K hK => ?_); go_simp; first | (refine hK _ ?_; clear hK K) | (apply Exists.intro; refine ⟨fun _ => ?_, hK _ ?_⟩; (first | (go_at_call 61; exact calls_bel (Nat.le_refl _) (HLV.out _))); clear hK K))
      refine QW.nil ?_
      refine hQ'.out _ (fun p => ?_)
      clear hQ'
      go_wp2_with fail
      go_loopw [5] (fun ii wr => ∃ (q : Nat), q ≤ x.kids.length ∧ ii = .int .i64 q ∧ Hid (Below w.heap.size w wr) ∧ Hid (∀ r (h1 : r < x.kids.length) (h2 : r < y.kids.length), r < q → sameF hs ta tb n x.kids[r] y.kids[r] = true)) (fun ii _ => x.kids.length - (intOf ii).toNat)
      case atStart => exact ⟨0, by omega, rfl, p.h, fun r _ _ h => by omega⟩
      case round =>
        obtain ⟨q, hq, rfl, HB, HA⟩ := hrel
        have hAr : A < wr.heap.size := Nat.lt_of_lt_of_le hAl HB.out.size
        have hBr : B < wr.heap.size := Nat.lt_of_lt_of_le hBl HB.out.size
        have a5r : wr.cell? ⟨A, 5, none⟩ = some (.slice ka1 x.kids.length kc1) := a5 ⟨wr, HB.out⟩
        by_cases hlt : q < x.kids.length
        · have hlt2 : q < y.kids.length := by have := HKE.out; omega
          have hlt' : (q : Int) < x.kids.length := by omega
          have hlt2' : (q : Int) < y.kids.length := by omega
          have HQ1 := hide (show q + 1 ≤ x.kids.length from hlt)
          obtain ⟨b1, o1, rfl, _, c1⟩ := HKC1.out (by simpa using (show 0 < x.kids.length by omega))
          obtain ⟨b2, o2, rfl, _, c2⟩ := HKC2.out (by simpa using (show 0 < y.kids.length by omega))
          have k1 := c1 q (by simpa using hlt)
          have k2 := c2 q (by simpa using hlt2)
          simp only [ptrV, List.getElem_map] at k1 k2
          have r1 := HKA.out x.kids[q] (List.getElem_mem hlt)
          have r2 := HKB.out y.kids[q] (List.getElem_mem hlt2)
          haveI := bel_ne wr.heap.size wr
          have m1 : ∀ p : Bel wr.heap.size wr, p.w'.cell? ⟨b1, o1 + q, none⟩ = some (.pointer (some ⟨pa x.kids[q].toNat, 0, none⟩)) := fun p => p.cell (by have := lt_cell (keep_cell HB.out k1); omega) (keep_cell HB.out k1)
          have m2 : ∀ p : Bel wr.heap.size wr, p.w'.cell? ⟨b2, o2 + q, none⟩ = some (.pointer (some ⟨pb y.kids[q].toNat, 0, none⟩)) := fun p => p.cell (by have := lt_cell (keep_cell HB.out k2); omega) (keep_cell HB.out k2)
          have n1 : ∀ p : Bel wr.heap.size wr, p.w'.cell? ⟨A, 5, none⟩ = some (.slice (some ⟨b1, o1, none⟩) x.kids.length kc1) := fun p => p.cell hAr a5r
          have n2 : ∀ p : Bel wr.heap.size wr, p.w'.cell? ⟨B, 5, none⟩ = some (.slice (some ⟨b2, o2, none⟩) y.kids.length kc2) := fun p => p.cell hBr (b5 ⟨wr, HB.out⟩)
          have HC : Hid (∀ p : Bel wr.heap.size wr, Calls Tryz.prog 37 #[.pointer (some ⟨pa x.kids[q].toNat, 0, none⟩), .pointer (some ⟨pb y.kids[q].toNat, 0, none⟩)] p.w' fun e w' => e = .returned (.bool (sameF hs ta tb n x.kids[q] y.kids[q])) ∧ Below p.w'.heap.size p.w' w') := fun p => IH.out.at x.kids[q] y.kids[q] r1.1 r2.1 p.w' Qa Qb (by omega) (by omega) (by omega) ((HFA.out.to (Carry.below HB.out)).to (Carry.below p.h)) ((HFB.out.to (Carry.below HB.out)).to (Carry.below p.h))
          have HNX : Hid (sameF hs ta tb n x.kids[q] y.kids[q] = true → ∀ r (h1 : r < x.kids.length) (h2 : r < y.kids.length), r < q + 1 → sameF hs ta tb n x.kids[r] y.kids[r] = true) := by
            intro he r h h2 hj
            by_cases e : r = q
            · subst e; exact he
            · exact HA.out r h h2 (by omega)
          have HNO : Hid (sameF hs ta tb n x.kids[q] y.kids[q] = false → all2 (sameF hs ta tb n) x.kids y.kids = false) := fun h => all2_ne q hlt hlt2 h
          generalize sameF hs ta tb n x.kids[q] y.kids[q] = bb at *
          generalize pa x.kids[q].toNat = P1 at *
          generalize pb y.kids[q].toNat = P2 at *
          clear c1 c2 k1 k2 r1 r2 HA
          go_wp2_with fail
          refine wp_region_belH wr.heap.size (by kernel_rfl) (by kernel_rfl) (fun Q' hQ' => ?_)
          repeat (refine QW.step (fun K hK => ?_); go_simp; first | (refine hK _ ?_; clear hK K) | (apply Exists.intro; refine ⟨fun _ => ?_, hK _ ?_⟩; (first | (go_at_call 37; exact calls_bel (Nat.le_refl _) (HC.out _))); clear hK K))
          refine QW.nil ?_
          refine hQ'.out _ (fun p => ?_)
          clear hQ'
          cases bb
          · have HF := hide (HRT.out.trans (HNO.out rfl))
            go_wp2_with fail
            go_ret
            exact ⟨ret_bool HF.out.symm, bel_trans HB.out p.h⟩
          · have HG := hide (HNX.out rfl)
            go_wp2_with fail
            go_roundw
            case rel => exact ⟨q + 1, HQ1.out, by go_num, bel_trans HB.out p.h, HG⟩
            case measure => have := HQ1.out; simp [intOf]; omega
        · have HE : Hid (sameF hs ta tb (n + 1) (i : Int) (j : Int) = true) := HRT.out.trans (all2_good HKE.out (fun r h h2 => HA.out r h h2 (by omega)))
          have hlt' : ¬ (q : Int) < x.kids.length := by omega
          go_wp2_with fail
          go_ret
          exact ⟨ret_bool HE.out.symm, HB.out⟩
    · have hb1 : bindsB x.k = true := by rcases hsb with h | h; exact absurd h hs1; exact h
      have HBD : Hid (∀ p : Bel w.heap.size w, Calls Tryz.prog 60 #[.int .i64 x.k] p.w' fun e w' => e = .returned (.bool true) ∧ w' = p.w') := fun p => by have h := l3Binds_any x.k p.w'; rw [hb1] at h; exact h
      have qs : (x.s.toList == y.s.toList) = false := by rw [beq_bytes]; simp [hs1]
      have qs2 : (x.s.toList != y.s.toList) = true := by rw [bne, qs]; rfl
      clear hsb hs1
      repeat (refine QW.step (fun K hK => ?_); go_simp; first | (refine hK _ ?_; clear hK K) | (apply Exists.intro; refine ⟨fun _ => ?_, hK _ ?_⟩; (first | (go_at_call 61; exact calls_bel (Nat.le_refl _) (HLV.out _)) | (go_at_call 60; exact calls_bel_same (HBD.out _))); clear hK K))
      refine QW.nil ?_
      refine hQ'.out _ (fun p => ?_)
      clear hQ'
      go_wp2_with fail
      go_loopw [5] (fun ii wr => ∃ (q : Nat), q ≤ x.kids.length ∧ ii = .int .i64 q ∧ Hid (Below w.heap.size w wr) ∧ Hid (∀ r (h1 : r < x.kids.length) (h2 : r < y.kids.length), r < q → sameF hs ta tb n x.kids[r] y.kids[r] = true)) (fun ii _ => x.kids.length - (intOf ii).toNat)
      case atStart => exact ⟨0, by omega, rfl, p.h, fun r _ _ h => by omega⟩
      case round =>
        obtain ⟨q, hq, rfl, HB, HA⟩ := hrel
        have hAr : A < wr.heap.size := Nat.lt_of_lt_of_le hAl HB.out.size
        have hBr : B < wr.heap.size := Nat.lt_of_lt_of_le hBl HB.out.size
        have a5r : wr.cell? ⟨A, 5, none⟩ = some (.slice ka1 x.kids.length kc1) := a5 ⟨wr, HB.out⟩
        by_cases hlt : q < x.kids.length
        · have hlt2 : q < y.kids.length := by have := HKE.out; omega
          have hlt' : (q : Int) < x.kids.length := by omega
          have hlt2' : (q : Int) < y.kids.length := by omega
          have HQ1 := hide (show q + 1 ≤ x.kids.length from hlt)
          obtain ⟨b1, o1, rfl, _, c1⟩ := HKC1.out (by simpa using (show 0 < x.kids.length by omega))
          obtain ⟨b2, o2, rfl, _, c2⟩ := HKC2.out (by simpa using (show 0 < y.kids.length by omega))
          have k1 := c1 q (by simpa using hlt)
          have k2 := c2 q (by simpa using hlt2)
          simp only [ptrV, List.getElem_map] at k1 k2
          have r1 := HKA.out x.kids[q] (List.getElem_mem hlt)
          have r2 := HKB.out y.kids[q] (List.getElem_mem hlt2)
          haveI := bel_ne wr.heap.size wr
          have m1 : ∀ p : Bel wr.heap.size wr, p.w'.cell? ⟨b1, o1 + q, none⟩ = some (.pointer (some ⟨pa x.kids[q].toNat, 0, none⟩)) := fun p => p.cell (by have := lt_cell (keep_cell HB.out k1); omega) (keep_cell HB.out k1)
          have m2 : ∀ p : Bel wr.heap.size wr, p.w'.cell? ⟨b2, o2 + q, none⟩ = some (.pointer (some ⟨pb y.kids[q].toNat, 0, none⟩)) := fun p => p.cell (by have := lt_cell (keep_cell HB.out k2); omega) (keep_cell HB.out k2)
          have n1 : ∀ p : Bel wr.heap.size wr, p.w'.cell? ⟨A, 5, none⟩ = some (.slice (some ⟨b1, o1, none⟩) x.kids.length kc1) := fun p => p.cell hAr a5r
          have n2 : ∀ p : Bel wr.heap.size wr, p.w'.cell? ⟨B, 5, none⟩ = some (.slice (some ⟨b2, o2, none⟩) y.kids.length kc2) := fun p => p.cell hBr (b5 ⟨wr, HB.out⟩)
          have HC : Hid (∀ p : Bel wr.heap.size wr, Calls Tryz.prog 37 #[.pointer (some ⟨pa x.kids[q].toNat, 0, none⟩), .pointer (some ⟨pb y.kids[q].toNat, 0, none⟩)] p.w' fun e w' => e = .returned (.bool (sameF hs ta tb n x.kids[q] y.kids[q])) ∧ Below p.w'.heap.size p.w' w') := fun p => IH.out.at x.kids[q] y.kids[q] r1.1 r2.1 p.w' Qa Qb (by omega) (by omega) (by omega) ((HFA.out.to (Carry.below HB.out)).to (Carry.below p.h)) ((HFB.out.to (Carry.below HB.out)).to (Carry.below p.h))
          have HNX : Hid (sameF hs ta tb n x.kids[q] y.kids[q] = true → ∀ r (h1 : r < x.kids.length) (h2 : r < y.kids.length), r < q + 1 → sameF hs ta tb n x.kids[r] y.kids[r] = true) := by
            intro he r h h2 hj
            by_cases e : r = q
            · subst e; exact he
            · exact HA.out r h h2 (by omega)
          have HNO : Hid (sameF hs ta tb n x.kids[q] y.kids[q] = false → all2 (sameF hs ta tb n) x.kids y.kids = false) := fun h => all2_ne q hlt hlt2 h
          generalize sameF hs ta tb n x.kids[q] y.kids[q] = bb at *
          generalize pa x.kids[q].toNat = P1 at *
          generalize pb y.kids[q].toNat = P2 at *
          clear c1 c2 k1 k2 r1 r2 HA
          go_wp2_with fail
          refine wp_region_belH wr.heap.size (by kernel_rfl) (by kernel_rfl) (fun Q' hQ' => ?_)
          repeat (refine QW.step (fun K hK => ?_); go_simp; first | (refine hK _ ?_; clear hK K) | (apply Exists.intro; refine ⟨fun _ => ?_, hK _ ?_⟩; (first | (go_at_call 37; exact calls_bel (Nat.le_refl _) (HC.out _))); clear hK K))
          refine QW.nil ?_
          refine hQ'.out _ (fun p => ?_)
          clear hQ'
          cases bb
          · have HF := hide (HRT.out.trans (HNO.out rfl))
            go_wp2_with fail
            go_ret
            exact ⟨ret_bool HF.out.symm, bel_trans HB.out p.h⟩
          · have HG := hide (HNX.out rfl)
            go_wp2_with fail
            go_roundw
            case rel => exact ⟨q + 1, HQ1.out, by go_num, bel_trans HB.out p.h, HG⟩
            case measure => have := HQ1.out; simp [intOf]; omega
        · have HE : Hid (sameF hs ta tb (n + 1) (i : Int) (j : Int) = true) := HRT.out.trans (all2_good HKE.out (fun r h h2 => HA.out r h h2 (by omega)))
          have hlt' : ¬ (q : Int) < x.kids.length := by omega
          go_wp2_with fail
          go_ret
          exact ⟨ret_bool HE.out.symm, HB.out⟩

theorem l3Same_all {ta tb : List Td} {pa pb : Nat → Nat} (ha : termB ta = true) (hb : termB tb = true) (hne : ∀ i j, i < ta.length → j < tb.length → pa i ≠ pb j) : ∀ n, SameIH ta tb pa pb n
  | 0 => fun i j w Qa Qb h => by omega
  | n + 1 => l3Same_step ha hb hne n (hide (l3Same_all ha hb hne n))
end Go.Proofs.YtgomimhelgjddaaGreat
