/- What the program's Apply answers. -/
import Derived.Test.YtbgibiongnhjoaaGreatSiA
import Derived.Test.YtbgibiongnhjoaaGreatSpA
import Derived.Test.YtbgibiongnhjoaaGreatStX
import Derived.Test.YtbgibiongnhjoaaGreatPutP
namespace Go.Proofs.YtbgibiongnhjoaaGreat
open Go.ChangeShapes Go.WideShapes Go.ChangeAt Go.RowKit

/-- Trees of some terms. -/
def TreesFor (tss : List (List Td)) (Ts : List Tt) : Prop := Ts.length = tss.length ∧ ∀ i (h1 : i < tss.length) (h2 : i < Ts.length), TreeFor tss[i] Ts[i]
/-- What Apply answers. -/
def appA (ts : List Td) (tss : List (List Td)) (T : Tt) (Ts : List Tt) : List Td × Int := if termB ts = true ∧ ∀ l ∈ tss, termB l = true then ansT (fitT (appsR T Ts)) else ([], 1)
theorem apps_all {P : Hd → Nat → Prop} (hp : P appH 2) : ∀ (xs : List Tt) (f : Tt), f.all P → (∀ a ∈ xs, a.all P) → (appsR f xs).all P
  | [], f, hf, _ => hf
  | a :: xs, f, hf, h => apps_all hp xs (.t2 appH f a) ⟨hp, hf, h a (by simp)⟩ (fun x hx => h x (by simp [hx]))
theorem app_lev : levP appH 2 := ⟨fun l hl => by simp [appH] at hl, by simp [appH]⟩
theorem trees_mem {tss : List (List Td)} {Ts : List Tt} (h : TreesFor tss Ts) (hv : ∀ l ∈ tss, termB l = true) : ∀ T ∈ Ts, T.all nodeP ∧ T.cnt ≤ 20000 := fun T hT => by
  obtain ⟨i, hi, rfl⟩ := List.getElem_of_mem hT
  have hi2 : i < tss.length := by have := h.1; omega
  have ht := hv tss[i] (List.getElem_mem hi2)
  obtain ⟨h1, h2⟩ := h.2 i hi2 hi ht
  exact ⟨h2, by rw [← Ts[i].flat_len 0, h1]; exact len_of ht⟩
set_option maxRecDepth 20000 in
set_option maxHeartbeats 8000000 in
theorem implApply_any (v vs : Value) (ts : List Td) (tss : List (List Td)) (T : Tt) (Ts : List Tt) (w : World) (hns : TNodesAt w v ts) (hnt : TermsAt w vs tss) (hsz : ∀ td ∈ ts, TLens td) (hsm : ∀ td ∈ ts, TSmall td) (hsp : ∀ td ∈ ts, (spell td.lv).length ≤ 1000000000) (hszs : ∀ l ∈ tss, ∀ td ∈ l, TLens td) (hsms : ∀ l ∈ tss, ∀ td ∈ l, TSmall td) (hsps : ∀ l ∈ tss, ∀ td ∈ l, (spell td.lv).length ≤ 1000000000) (hlen : tss.length ≤ 1048576) (hT : TreeFor ts T) (hTs : TreesFor tss Ts) :
    Calls Tryz.prog 25 #[.agg #[v], vs] w fun e w' => TOut w.heap.size w' e (appA ts tss T Ts) ∧ Below w.heap.size w w' := by
  obtain ⟨ip, hip, hzp, hsp1, hbp⟩ := info_parts Tryz.info80
  obtain ⟨A, hA⟩ : ∃ A, A = appA ts tss T Ts := ⟨_, rfl⟩
  rw [← hA]
  have HAA := hide hA
  clear hA
  obtain ⟨W, hW⟩ : ∃ W, W = (w.alloc (.cells #[v] 28)).alloc (.cells #[.slice none 0 0] 28) := ⟨_, rfl⟩
  have hbW : Below w.heap.size w W := by rw [hW]; exact bel_alloc (bel_alloc (Below.refl w.heap.size w) _) _
  have HRF := hide (fun (w2 : World) (Sb mb gb : Nat) (Z0 : Nat → Zs) (H0 : Nat → Bool) => read_more v ts W w2 Sb mb gb 0 [] Z0 H0 (hns.keep hbW) hsz hsm hsp)
  obtain ⟨aa, capa, rfl, hca, hcm, hcells⟩ := hnt.keep hbW
  unfold maxLen at hcm
  have HCE := hide hcells
  have HRA : Hid (∀ (i : Nat) (hi : i < tss.length) (u : Value), TNodesAt W u tss[i] → ∀ (w2 : World) (Sb mb gb clock : Nat) (L0 : List (Nk × Nat × Nat)) (Z0 : Nat → Zs) (H0 : Nat → Bool) (hb : Below W.heap.size W w2) (hs : St W.heap.size w2 Sb mb gb clock L0 Z0 H0), Calls Tryz.prog 53 #[.pointer (some ⟨Sb, 0, none⟩), .agg #[u]] w2 fun e w' => RdOut W.heap.size Sb mb gb clock L0 Z0 H0 tss[i] e w' ∧ Below W.heap.size W w' ∧ KeptX (fun k => k = mb) w2 w') := fun i hi u hu w2 Sb mb gb clock L0 Z0 H0 hb hs => read_keep u tss[i] W w2 Sb mb gb clock L0 Z0 H0 hu (hszs _ (List.getElem_mem hi)) (hsms _ (List.getElem_mem hi)) (hsps _ (List.getElem_mem hi)) hb hs
  have HBW := hide hbW
  have HW := hide hW
  have HTT := hide hT
  have HTS := hide hTs
  obtain ⟨a, cap, rfl, _, _, _⟩ := hns
  have c0 : W.cell? ⟨w.heap.size, 0, none⟩ = some (.slice a ts.length cap) := by rw [hW]; simp [go_sem]
  have HR : Hid (W.heap[w.heap.size + 1]? = some (.cells #[.slice none 0 0] 28 (0, 0))) := by show _ = _; rw [hW]; exact heap_alloc_at _ _ (by simp)
  have l0 := lt_cell c0
  clear hsz hsm hsp hszs hsms hsps hbW hW hT hTs hcells hnt
  go_enter Tryz.func25, Tryz.ntmps25
  go_upto_region 1 with fail
  rw [← HW.out]
  clear HW
  go_wp2_with fail
  refine (newStore_any W).mono ?_
  rintro e w2 ⟨⟨Sb, mb, gb, rfl, hs2⟩, hb2⟩
  have c0 := keep_cell hb2 c0
  have l0 := lt_cell c0
  have HCF := hide (HRF.out w2 Sb mb gb _ _ hb2 hs2)
  have hrl : w.heap.size + 1 < W.heap.size := (Array.getElem?_eq_some_iff.1 HR.out).1
  clear hs2 hb2 HRF
  go_wp2_with fail
  refine HCF.out.mono ?_
  rintro e w3 ⟨he, hb3⟩
  have HB3 := hide hb3
  have HBAD : Hid (∀ w' w4 : World, Below W.heap.size W w4 → w' = w4.setCell ⟨w.heap.size + 1, 0, none⟩ (.slice none 0 0) → TOut w.heap.size w' (.returned (.tuple #[.agg #[.slice none 0 0], .int .i64 1])) ([], 1) ∧ Below w.heap.size w w') := fun w' w4 h4 hw' => by
    subst hw'
    exact ⟨⟨_, rfl, tmV_nil _ _ _⟩, (bel_trans HBW.out h4).setCell (p := ⟨_, _, _⟩) (by show _ ≤ w.heap.size + 1; omega) _⟩
  have HRW : Hid (∀ w4 : World, Below W.heap.size W w4 → w4.heap[w.heap.size + 1]? = some (.cells #[.slice none 0 0] 28 (0, 0))) := fun w4 h4 => by rw [h4.block _ hrl]; exact HR.out
  clear HCF c0 l0 hb3
  rcases he with ⟨ht, rfl, _⟩ | ⟨ht, pt, clock, L, Z, H, rfl, hs3, hr3, _⟩
  · have HE : Hid (A = ([], 1)) := by show _ = _; rw [HAA.out]; unfold appA; rw [if_neg (by simp [ht])]
    have c4 : w3.cell? ⟨w.heap.size + 1, 0, none⟩ = some (.slice none 0 0) := by rw [Lib.cell_of_heap (HRW.out w3 HB3.out)]; rfl
    have f4 : w3.frozen? ⟨w.heap.size + 1, 0, none⟩ = false := Lib.frozen_of_heap (HRW.out w3 HB3.out) 0
    have l4 := lt_cell c4
    clear ht
    go_wp2_with fail
    exact bodyPost_ret (v := .tuple #[.agg #[.slice none 0 0], .int .i64 1]) (by simp [results, Tryz.results25, go_sem, c4]) rfl (by rw [HE.out]; exact HBAD.out _ _ HB3.out rfl)
  · obtain ⟨hfl, hP⟩ := HTT.out ht
    have HIT := hide (rd_root hr3 hfl)
    have HTV := hide ht
    have HP := hide hP
    have HS3 := hide hs3
    generalize pt (ts.length - 1) = rb at *
    clear ht hfl hP hs3 hr3
    go_wp2_with fail
    go_loopw [9, 26] (fun r i wr => ∃ (k clock : Nat) (L : List (Nk × Nat × Nat)) (Z : Nat → Zs) (H : Nat → Bool) (ps : List Nat) (ad : Option Addr) (cp : Nat), k ≤ tss.length ∧ i = .int .i64 k ∧ r = .slice ad k cp ∧ Hid (ps.length = k) ∧ Hid (wr.ownsRow W.heap.size 80 1 (.slice ad k cp) k (ps.map ptrV)) ∧ Hid (St W.heap.size wr Sb mb gb clock L Z H) ∧ Hid (IsT L T rb) ∧ Hid (∀ i (h1 : i < ps.length) (h2 : i < Ts.length), IsT L Ts[i] ps[i]) ∧ Hid (∀ i (h : i < tss.length), i < k → termB tss[i] = true) ∧ Hid (Below W.heap.size W wr)) (fun _ i _ => tss.length - (intOf i).toNat)
    case atStart => exact ⟨0, clock, L, Z, H, [], none, 0, by omega, rfl, rfl, rfl, World.ownsRow_nil _ _ _ _, HS3, HIT, fun i h => by simp at h, fun i _ h => by omega, HB3⟩
    case round =>
      clear HS3 HIT HB3
      obtain ⟨k, clock, L, Z, H, ps, ad, cp, hk, rfl, rfl, HPL, HO, HST, HIT, HIX, HVA, HBL⟩ := hrel
      by_cases hlt : k < tss.length
      · have hlt' : (k : Int) < tss.length := by omega
        have HQ1 := hide (show k + 1 ≤ tss.length from hlt)
        obtain ⟨b, off, rfl, hce⟩ := HCE.out (by omega)
        obtain ⟨u, d1, hu⟩ := hce k hlt
        have HRK := hide (HRA.out k hlt u hu)
        have d1 := keep_cell HBL.out d1
        obtain ⟨ua, un, uc, rfl⟩ : ∃ ua un uc, u = .slice ua un uc := by obtain ⟨a, cap, h, _⟩ := hu; exact ⟨_, _, _, h⟩
        have hl1 := lt_cell d1
        obtain ⟨W1, hW1⟩ : ∃ W1, W1 = wr.alloc (.cells #[.slice ua un uc] 28) := ⟨_, rfl⟩
        have hb1 : Below wr.heap.size wr W1 := by rw [hW1]; exact bel_alloc (Below.refl _ _) _
        have d2 : W1.cell? ⟨wr.heap.size, 0, none⟩ = some (.slice ua un uc) := by rw [hW1]; simp [go_sem]
        have hl2 := lt_cell d2
        have HCA := hide (HRK.out W1 Sb mb gb clock L Z H (bel_trans HBL.out hb1) (HST.out.keep hb1 HBL.out.size))
        have HO1 := hide (row_keep hb1 HO.out)
        have hmb : ∀ g, (Value.slice ad k cp).ownBlock = some g → g ≠ mb := fun g hg e => by
          subst e
          rcases HO.out.2 with ⟨h3, h0⟩ | ⟨g2, cap', cur, h3, _, h4, _⟩
          · rw [h3] at hg; simp [Value.ownBlock] at hg
          · rw [h3] at hg
            have e : g2 = g := by simpa [Value.ownBlock] using hg
            subst e
            rw [HST.out.mp] at h4
            cases h4
        have HMB := hide hmb
        have hbl1 := HBL.out.size
        have hb1s := hb1.size
        clear hb1 hce hu HRK hmb
        go_upto_region 9 with fail
        rw [← hW1]
        clear hW1 d1 hl1
        go_wp2_with fail
        refine HCA.out.mono ?_
        rintro e w4 ⟨he4, hb4, hk4⟩
        have HB4 := hide hb4
        have hk4s := hk4.size
        have HO4 : Hid (w4.ownsRow W.heap.size 80 1 (.slice ad k cp) k (ps.map ptrV)) := row_same HO1.out (fun g hg => hk4.block g (World.ownsRow.lt HO1.out g hg).2 (HMB.out g hg))
        have c4 : w4.cell? ⟨w.heap.size + 1, 0, none⟩ = some (.slice none 0 0) := by rw [Lib.cell_of_heap (HRW.out w4 hb4)]; rfl
        have f4 : w4.frozen? ⟨w.heap.size + 1, 0, none⟩ = false := Lib.frozen_of_heap (HRW.out w4 hb4) 0
        have l4 := lt_cell c4
        clear hb4 hk4 HCA HO1 d2 hl2
        rcases he4 with ⟨hta, rfl, _⟩ | ⟨hta, pta, clock4, L4, Z4, H4, rfl, hs4, hr4, hx4⟩
        · have HE : Hid (A = ([], 1)) := by
            show _ = _
            rw [HAA.out]
            unfold appA
            rw [if_neg (fun h => by rw [h.2 _ (List.getElem_mem hlt)] at hta; cases hta)]
          clear hta
          go_wp2_with fail
          exact bodyPost_ret (v := .tuple #[.agg #[.slice none 0 0], .int .i64 1]) (by simp [results, Tryz.results25, go_sem, c4]) rfl (by rw [HE.out]; exact HBAD.out _ _ HB4.out rfl)
        · have hkT : k < Ts.length := by have := HTS.out.1; omega
          obtain ⟨hfa, hPa⟩ := HTS.out.2 k hlt hkT hta
          have HI4 := hide (rd_root hr4 hfa)
          have HS4 := hide hs4
          have HX4 : Hid (∀ x ∈ L, x ∈ L4) := fun x hx => (hx4 x hx).1
          have HTA := hide hta
          generalize pta (tss[k].length - 1) = ra at *
          obtain ⟨W5, hW5⟩ : ∃ W5, W5 = w4.alloc (.cells #[.pointer (some ⟨ra, 0, none⟩)] 80) := ⟨_, rfl⟩
          have hb5 : Below w4.heap.size w4 W5 := by rw [hW5]; exact bel_alloc (Below.refl _ _) _
          have hh5 : W5.heap[w4.heap.size]? = some (.cells #[.pointer (some ⟨ra, 0, none⟩)] 80 (0, 0)) := by rw [hW5]; exact heap_alloc_new w4 _
          have HO5 := hide (row_keep hb5 HO4.out)
          have hs5 : W5.heap.size = w4.heap.size + 1 := by rw [hW5]; simp
          have HS5 := hide (HS4.out.keep hb5 (by omega))
          have HB5 := hide (bel_trans HB4.out hb5)
          clear hta hfa hPa hs4 hr4 hx4 hb5 HO4 c4 f4 l4
          go_wp2_with (first
            | (at_builtin
               rw [← hW5]
               refine wpList_append_lies _ rfl _ _ 85 rfl W.heap.size 80 ip (.pointer none) 1 8 Tryz.underlying85 hip hzp hsp1 hbp rfl (by omega) (.slice ad k cp) k (ps.map ptrV) rfl HO5.out ⟨w4.heap.size, 0, none⟩ 1 1 [.pointer (some ⟨ra, 0, none⟩)] rfl rfl (World.news_of_block (cs := #[.pointer (some ⟨ra, 0, none⟩)]) (t := 80) (fr := (0, 0)) hh5) (by intro u hu; simp at hu; rcases hu with rfl; rfl) (by omega) (by unfold maxLen; omega) (by omega) (by omega) W5.heap.size rfl ?_)
            | fail)
          intro g6 cap6 w6 hown6 hgrow6 hat6 hlt6
          rw [← hW5] at hgrow6
          have HO6 : Hid (w6.ownsRow W.heap.size 80 1 (.slice (some ⟨g6, 0, none⟩) (k + 1) cap6) (k + 1) ((ps ++ [ra]).map ptrV)) := by
            show World.ownsRow _ _ _ _ _ _ _
            rw [List.map_append]
            exact hown6
          have HS6 : Hid (St W.heap.size w6 Sb mb gb clock4 L4 Z4 H4) := by
            show St _ _ _ _ _ _ _ _ _
            rcases HO5.out.2 with ⟨h3, h0⟩ | ⟨g2, cap', cur, h3, h3b, h4, _⟩
            · have hgn : W5.grownBy w6 none := by rw [h3] at hgrow6; simpa [Value.ownBlock] using hgrow6
              exact HS5.out.keep ((Below.refl _ _).grown hgn (Nat.le_refl _) (fun k hk => by cases hk)) (by omega)
            · have hgn : W5.grownBy w6 (some g2) := by rw [h3] at hgrow6; simpa [Value.ownBlock] using hgrow6
              exact HS5.out.row h4 hgn h3b (by omega)
          have HB6 : Hid (Below W.heap.size W w6) := HB5.out.grown hgrow6 (by omega) (fun k hk => (World.ownsRow.lt HO5.out k hk).1)
          have HPL6 : Hid ((ps ++ [ra]).length = k + 1) := by show _ = _; rw [List.length_append, HPL.out]; rfl
          have HIX6 : Hid (∀ i (h1 : i < (ps ++ [ra]).length) (h2 : i < Ts.length), IsT L4 Ts[i] (ps ++ [ra])[i]) := fun i h1 h2 => by
            have hpl := HPL.out
            by_cases e : i < k
            · have e2 : (ps ++ [ra])[i] = ps[i]'(by omega) := List.getElem_append_left (by omega)
              rw [e2]
              exact (HIX.out i (by omega) h2).more HX4.out
            · have ei : i = k := by simp at h1; omega
              subst ei
              have e2 : (ps ++ [ra])[i] = ra := by simp [hpl]
              rw [e2]
              exact HI4.out
          have HVA6 : Hid (∀ i (h : i < tss.length), i < k + 1 → termB tss[i] = true) := fun i h h2 => by
            by_cases e : i = k
            · subst e; exact HTA.out
            · exact HVA.out i h (by omega)
          have HIT6 : Hid (IsT L4 T rb) := HIT.out.more HX4.out
          clear hown6 hgrow6 hat6 hlt6 HO5 HS5 HB5 hh5 hW5 HIX HVA HIT HI4 HX4
          go_wp2_with fail
          go_roundw
          case rel => exact ⟨k + 1, clock4, L4, Z4, H4, ps ++ [ra], some ⟨g6, 0, none⟩, cap6, HQ1.out, by go_num, rfl, HPL6, HO6, HS6, HIT6, HIX6, HVA6, HB6⟩
          case measure => have := HQ1.out; simp [intOf]; omega
      · have hlt' : ¬ (k : Int) < tss.length := by omega
        have e : k = tss.length := by omega
        subst e
        have hall : ∀ l ∈ tss, termB l = true := fun l hl => by
          obtain ⟨i, hi, rfl⟩ := List.getElem_of_mem hl
          exact HVA.out i hi hi
        have HE : Hid (A = ansT (fitT (appsR T Ts))) := by show _ = _; rw [HAA.out]; unfold appA; rw [if_pos ⟨HTV.out, hall⟩]
        have hTl : Ts.length = tss.length := HTS.out.1
        have hmem := trees_mem HTS.out hall
        have hcT := (ist_lt HST.out HIT.out).1
        have HAP := hide (apply_any W.heap.size Sb mb gb clock W.heap.size L Z H (some T) rb Ts ps (.slice ad tss.length cp) wr HST.out HBL.out.size HIT.out (by rw [hTl]; exact HPL.out) HIX.out (by rw [hTl]; exact HO.out) (by rw [hTl]; exact hlen))
        rw [apps_both T Ts (all_mono node_var HP.out) hcT (fun x hx => ⟨all_mono node_var (hmem x hx).1, (hmem x hx).2⟩)] at HAP
        have HLV : Hid (∀ T', fitT (appsR T Ts) = some T' → T'.all levP) := fun T' h => by rw [fit_some h]; exact apps_all app_lev Ts T (all_mono node_lev HP.out) (fun x hx => all_mono node_lev (hmem x hx).1)
        have hml : mb < wr.heap.size := (Array.getElem?_eq_some_iff.1 HST.out.mp).1
        have hmlo : W.heap.size ≤ mb := HST.out.lows.2
        have c4 : wr.cell? ⟨w.heap.size + 1, 0, none⟩ = some (.slice none 0 0) := by rw [Lib.cell_of_heap (HRW.out wr HBL.out)]; rfl
        have l4 := lt_cell c4
        have hWs := HBW.out.size
        have hbl1 := HBL.out.size
        generalize fitT (appsR T Ts) = rr at *
        clear hall hmem c4 HAA
        go_wp2_with fail
        refine HAP.out.mono ?_
        rintro e w5 ⟨b5, clock5, L5, Z5, H5, rfl, hs5, hL5, hr5, hg5⟩
        have HST5 := hide (sizedTerm_any W.heap.size Sb mb gb clock5 L5 Z5 H5 w5 hs5 (Nat.le_trans hbl1 hg5.size) rr b5 hr5 HLV.out)
        have HR5 : Hid (w5.heap[w.heap.size + 1]? = some (.cells #[.slice none 0 0] 28 (0, 0))) := by show _ = _; rw [hg5.block _ l4 (fun e => by have := Option.some.inj e; omega)]; exact HRW.out wr HBL.out
        have HB5 : Hid (Below w.heap.size w w5) := (bel_trans HBW.out HBL.out).grown hg5 (by omega) (fun k hk => by have := Option.some.inj hk; omega)
        clear hs5 hL5 hr5 hg5 l4 HAP
        go_wp2_with fail
        refine HST5.out.mono ?_
        rintro e w6 ⟨⟨v6, rfl, hv6⟩, hb6⟩
        obtain ⟨va, vc, rfl⟩ := hv6.form
        have hl5 : w.heap.size + 1 < w5.heap.size := (Array.getElem?_eq_some_iff.1 HR5.out).1
        have HR6 : Hid (w6.heap[w.heap.size + 1]? = some (.cells #[.slice none 0 0] 28 (0, 0))) := by show _ = _; rw [hb6.block _ hl5]; exact HR5.out
        have c6 : w6.cell? ⟨w.heap.size + 1, 0, none⟩ = some (.slice none 0 0) := by rw [Lib.cell_of_heap HR6.out]; rfl
        have f6 : w6.frozen? ⟨w.heap.size + 1, 0, none⟩ = false := Lib.frozen_of_heap HR6.out 0
        have l6 := lt_cell c6
        have HB6 := hide (bel_trans HB5.out hb6)
        have HV6 := hide (hv6.mono HB5.out.size (Nat.le_refl _))
        clear hv6 hb6 HST5
        go_wp2_with fail
        refine bodyPost_ret (v := .tuple #[.agg #[.slice va (ansT rr).1.length vc], .int .i64 (ansT rr).2]) (by simp [results, Tryz.results25, go_sem, c6]) rfl ⟨⟨_, by rw [HE.out], ?_⟩, ?_⟩
        · rw [HE.out, size_set]
          exact tmV_off' HV6.out HR6.out (by decide) (fun k hk => Below.heap_setCell w6 _ _ k hk)
        · exact HB6.out.setCell (p := ⟨_, _, _⟩) (by show _ ≤ w.heap.size + 1; omega) _
end Go.Proofs.YtbgibiongnhjoaaGreat
