/- What the specification's l3App, l3Apps, l3Trees and Apply answer. -/
import Derived.Test.YtbgibiongnhjoaaGreatSpF
import Derived.Test.YtbgibiongnhjoaaGreatApJ
namespace Go.Proofs.YtbgibiongnhjoaaGreat
open Go.ChangeShapes Go.WideShapes Go.ChangeAt Go.RowKit

set_option maxRecDepth 20000 in
set_option maxHeartbeats 2000000 in
theorem l3App_any (F A : Tt) (pf pa : Nat) (w : World) (hF : SpG (fun _ => True) w F pf) (hA : SpG (fun _ => True) w A pa) (nF : F.all numP) (nA : A.all numP) :
    Calls Tryz.prog 82 #[.pointer (some ⟨pf, 0, none⟩), .pointer (some ⟨pa, 0, none⟩)] w fun e w' => ∃ p, e = .returned (ptrV p) ∧ SpG (fun _ => True) w' (.t2 appH F A) p ∧ Below w.heap.size w w' := by
  obtain ⟨W, hW⟩ : ∃ W, W = w.alloc (.cells #[.pointer (some ⟨pf, 0, none⟩), .pointer (some ⟨pa, 0, none⟩)] 72) := ⟨_, rfl⟩
  have hbW : Below w.heap.size w W := by rw [hW]; exact bel_alloc (Below.refl _ _) _
  have hrow : W.ownsRow w.heap.size 72 1 (.slice (some ⟨w.heap.size, 0, none⟩) 2 2) 2 ([pf, pa].map ptrV) := by
    rw [hW]
    exact ⟨rfl, .inr ⟨w.heap.size, 2, _, rfl, Nat.le_refl _, heap_alloc_new w _, Nat.le_refl _, by decide, rfl, rfl⟩⟩
  have HM := hide (make_tree (Q := fun _ => True) (R := fun _ => True) (h := appH) (ts := [F, A]) (ps := [pf, pa]) (lvv := .slice none 0 0) (kdv := .slice (some ⟨w.heap.size, 0, none⟩) 2 2) (w := W) rfl (by simp) (levrow_nil _ W) ((PtrRowQ.own hrow rfl).to (fun b _ _ => ⟨trivial, fun _ _ h => h⟩)) (fun j h1 h2 => by
    rcases (show j = 0 ∨ j = 1 by simp at h1; omega) with rfl | rfl
    · exact hF.keep hbW
    · exact hA.keep hbW) (fun t ht => by
    simp only [List.mem_cons, List.not_mem_nil, or_false] at ht
    rcases ht with rfl | rfl
    · exact nF
    · exact nA) (fun h => by simp [appH] at h) (fun h => by simp [appH] at h) rfl)
  have HM : Hid (Calls Tryz.prog 92 #[.int .i64 4, .int .i64 0, .int .i64 0, .string ⟨#[]⟩, .slice none 0 0, .slice (some ⟨w.heap.size, 0, none⟩) 2 2] W fun e w' => e = .returned (ptrV W.heap.size) ∧ SpG (fun _ => True) w' (.t2 appH F A) W.heap.size ∧ Below W.heap.size W w') := HM.out
  have HBW := hide hbW
  have HBS := hide hbW.size
  clear hF hA nF nA hrow hbW
  go_enter Tryz.func82, Tryz.ntmps82
  go_wp2_with fail
  first | rw [← hW] | skip
  clear hW
  generalize hsz : W.heap.size = sz at *
  clear hsz
  refine HM.out.mono ?_
  rintro e w1 ⟨rfl, h1, h2⟩
  have H1 := hide h1
  have H2 := hide (HBW.out.trans (h2.mono HBS.out))
  clear h1 h2
  unfold ptrV
  go_wp2_with fail
  go_ret
  exact ⟨_, rfl, H1.out, H2.out⟩
theorem appsR_snoc (f : Tt) (xs : List Tt) (j : Nat) (h : j < xs.length) : appsR f (xs.take (j + 1)) = .t2 appH (appsR f (xs.take j)) xs[j] := by
  unfold appsR
  rw [List.take_succ_eq_append_getElem h, List.foldl_append]
  rfl
theorem app_num : numP appH 2 := fun h => by simp [appH] at h
set_option maxRecDepth 20000 in
set_option maxHeartbeats 4000000 in
theorem l3Apps_any (lo : Nat) (F : Tt) (pf : Nat) (xs : List Tt) (ps : List Nat) (v : Value) (w : World) (hF : SpG (fun _ => True) w F pf) (nF : F.all numP) (hl : ps.length = xs.length) (hx : ∀ i (h1 : i < ps.length) (h2 : i < xs.length), SpG (fun _ => True) w xs[i] ps[i]) (nX : ∀ x ∈ xs, x.all numP) (hrow : w.ownsRow lo 72 1 v xs.length (ps.map ptrV)) (hxl : xs.length ≤ 1048576) :
    Calls Tryz.prog 61 #[.pointer (some ⟨pf, 0, none⟩), v] w fun e w' => ∃ p, e = .returned (ptrV p) ∧ SpG (fun _ => True) w' (appsR F xs) p ∧ Below w.heap.size w w' := by
  obtain ⟨R, hR⟩ : ∃ R, R = appsR F xs := ⟨_, rfl⟩
  rw [← hR]
  have HRR := hide hR
  obtain ⟨a, cap, rfl⟩ := row_form hrow
  have H0 : Hid (SpG (fun _ => True) w (appsR F (xs.take 0)) pf) := hF
  have HNF := hide nF
  have HNX := hide nX
  have HX := hide hx
  have HL := hide hl
  have HROW := hide hrow
  clear hF nF nX hx hl hrow hR
  go_enter Tryz.func61, Tryz.ntmps61
  go_wp2_with fail
  go_loopw [0, 5] (fun fv i wr => ∃ (j p' : Nat), j ≤ xs.length ∧ i = .int .i64 j ∧ fv = .pointer (some ⟨p', 0, none⟩) ∧ Hid (SpG (fun _ => True) wr (appsR F (xs.take j)) p') ∧ Hid (Below w.heap.size w wr)) (fun _ i _ => xs.length - (intOf i).toNat)
  case atStart => exact ⟨0, pf, by omega, rfl, rfl, H0, Below.refl _ _⟩
  case round =>
    clear H0
    obtain ⟨j, p', hj, rfl, rfl, HSJ, HBJ⟩ := hrel
    by_cases hlt : j < xs.length
    · have hlt' : (j : Int) < xs.length := by omega
      have HQ1 := hide (show j + 1 ≤ xs.length from hlt)
      have hjp : j < ps.length := by have := HL.out; omega
      have hrw := row_keep HBJ.out HROW.out
      obtain ⟨Rb, rfl⟩ := own_some hrw (by omega)
      have d1 := hrw.cellAt j (by have := HL.out; simp; omega)
      rw [List.getElem?_map, List.getElem?_eq_getElem hjp] at d1
      simp only [Option.map_some, ptrV] at d1
      have hl1 := lt_cell d1
      have HN := hide (l3App_any (appsR F (xs.take j)) xs[j] p' ps[j] wr HSJ.out ((HX.out j hjp hlt).keep HBJ.out) (apps_all app_num _ _ HNF.out (fun x hx => HNX.out x (List.mem_of_mem_take hx))) (HNX.out _ (List.getElem_mem hlt)))
      have HN : Hid (Calls Tryz.prog 82 #[.pointer (some ⟨p', 0, none⟩), .pointer (some ⟨ps[j], 0, none⟩)] wr fun e w' => ∃ p, e = .returned (ptrV p) ∧ SpG (fun _ => True) w' (appsR F (xs.take (j + 1))) p ∧ Below wr.heap.size wr w') := by
        show Calls _ _ _ _ _
        rw [appsR_snoc F xs j hlt]
        exact HN.out
      generalize ps[j] = pj at *
      clear hrw hjp
      go_wp2_with fail
      refine HN.out.mono ?_
      rintro e w1 ⟨p1, rfl, g1, g2⟩
      have G1 := hide g1
      have G2 := hide (bel_trans HBJ.out g2)
      clear g1 g2 HN d1 hl1
      unfold ptrV
      go_wp2_with fail
      go_roundw
      case rel => exact ⟨j + 1, p1, HQ1.out, by go_num, rfl, G1, G2⟩
      case measure => have := HQ1.out; simp [intOf]; omega
    · have hlt' : ¬ (j : Int) < xs.length := by omega
      have e : j = xs.length := by omega
      subst e
      have HRE : Hid (SpG (fun _ => True) wr R p') := by show SpG _ _ _ _; rw [HRR.out]; have h := HSJ.out; rwa [List.take_length] at h
      go_wp2_with fail
      go_ret
      exact ⟨p', rfl, HRE.out, HBJ.out⟩
/-- The root that l3Tree answers, its blocks all new. -/
theorem tree_new {ts : List Td} {T : Tt} {pt : Nat → Nat} {Q : Nat → Prop} {w' : World} {B : Nat} (ht : termB ts = true) (hk : KidsIn ts ts.length) (F : Forest Q w' pt ts ts.length) (hQ : ∀ b, Q b → B ≤ b) (hT : TreeFor ts T) : SpG (fun b => B ≤ b) w' T (pt (ts.length - 1)) ∧ T.cnt ≤ 20000 := by
  obtain ⟨hfl, hP⟩ := hT ht
  have hc : T.cnt ≤ 20000 := by rw [← T.flat_len 0, hfl]; exact len_of ht
  exact ⟨((forest_root hk F hfl).toG (all_mono node_var hP) hc).weak (fun b _ hb => hQ b hb), hc⟩
/-- What l3Trees answers. -/
def TreesOut (B : Nat) (tss : List (List Td)) (Ts : List Tt) (e : Ending) (w' : World) : Prop :=
  ((¬ ∀ l ∈ tss, termB l = true) ∧ ∃ (a : Option Addr) (n c : Nat), e = .returned (.tuple #[.slice a n c, .bool false])) ∨
    ((∀ l ∈ tss, termB l = true) ∧ ∃ (v : Value) (ps : List Nat), e = .returned (.tuple #[v, .bool true]) ∧ ps.length = tss.length ∧ w'.ownsRow B 72 1 v tss.length (ps.map ptrV) ∧ ∀ i (h1 : i < ps.length) (h2 : i < Ts.length), SpG (fun _ => True) w' Ts[i] ps[i])
set_option maxRecDepth 20000 in
set_option maxHeartbeats 8000000 in
theorem l3Trees_any (vs : Value) (tss : List (List Td)) (Ts : List Tt) (w : World) (hnt : TermsAt w vs tss) (hszs : ∀ l ∈ tss, ∀ td ∈ l, TLens td) (hlvs : ∀ l ∈ tss, ∀ td ∈ l, td.lv.length ≤ 1048576) (hlen : tss.length ≤ 1048576) (hTs : TreesFor tss Ts) :
    Calls Tryz.prog 59 #[vs] w fun e w' => TreesOut w.heap.size tss Ts e w' ∧ Below w.heap.size w w' := by
  obtain ⟨ip, hip, hzp, hsp, hbp⟩ := info_parts Tryz.info72
  obtain ⟨aa, capa, rfl, hca, hcm, hcells⟩ := hnt
  unfold maxLen at hcm
  have HCE := hide hcells
  have HTR : Hid (∀ (i : Nat) (hi : i < tss.length) (u : Value) (W : World), TNodesAt W u tss[i] → Calls Tryz.prog 47 #[.agg #[u]] W fun e w' => ((termB tss[i] = false ∧ e = .returned (.pointer none)) ∨ (termB tss[i] = true ∧ KidsIn tss[i] tss[i].length ∧ ∃ pt Q, e = .returned (.pointer (some ⟨pt (tss[i].length - 1), 0, none⟩)) ∧ Forest Q w' pt tss[i] tss[i].length ∧ (∀ j, j < tss[i].length → W.heap.size ≤ pt j) ∧ ∀ b, Q b → W.heap.size ≤ b)) ∧ Below W.heap.size W w') := fun i hi u W hu => l3TreeF_any u tss[i] W hu (hszs _ (List.getElem_mem hi)) (hlvs _ (List.getElem_mem hi))
  have HTS := hide hTs
  obtain ⟨W1, hW1⟩ : ∃ W1, W1 = w.alloc (.cells #[] 72) := ⟨_, rfl⟩
  have hb1 : Below w.heap.size w W1 := by rw [hW1]; exact bel_alloc (Below.refl _ _) _
  have HO1 : Hid (W1.ownsRow w.heap.size 72 1 (.slice (some ⟨w.heap.size, 0, none⟩) 0 0) 0 (([] : List Nat).map ptrV)) := by
    show World.ownsRow _ _ _ _ _ _ _
    rw [hW1]
    exact ⟨rfl, .inr ⟨w.heap.size, 0, #[], rfl, Nat.le_refl _, heap_alloc_new w _, Nat.le_refl _, by unfold maxLen; omega, rfl, rfl⟩⟩
  have HB1 := hide hb1
  clear hb1 hcells hszs hlvs hTs
  go_enter Tryz.func59, Tryz.ntmps59
  go_wp2_with fail
  first | rw [← hW1] | skip
  go_loopw [4, 5] (fun r i wr => ∃ (k g cp : Nat) (ps : List Nat), k ≤ tss.length ∧ i = .int .i64 k ∧ r = .slice (some ⟨g, 0, none⟩) k cp ∧ Hid (ps.length = k) ∧ Hid (wr.ownsRow w.heap.size 72 1 (.slice (some ⟨g, 0, none⟩) k cp) k (ps.map ptrV)) ∧ Hid (∀ i (h1 : i < ps.length) (h2 : i < Ts.length), SpG (fun b => b < wr.heap.size ∧ b ≠ g) wr Ts[i] ps[i]) ∧ Hid (∀ i (h : i < tss.length), i < k → termB tss[i] = true) ∧ Hid (Below w.heap.size w wr)) (fun _ i _ => tss.length - (intOf i).toNat)
  case atStart => exact ⟨0, w.heap.size, 0, [], by omega, rfl, rfl, rfl, HO1, fun i h => by simp at h, fun i _ h => by omega, HB1⟩
  case round =>
    clear HO1 HB1 hW1
    obtain ⟨k, g, cp, ps, hk, rfl, rfl, HPL, HO, HSJ, HVA, HBJ⟩ := hrel
    have hwsz := HBJ.out.size
    by_cases hlt : k < tss.length
    · have hlt' : (k : Int) < tss.length := by omega
      have HQ1 := hide (show k + 1 ≤ tss.length from hlt)
      obtain ⟨b, off, rfl, hce⟩ := HCE.out (by omega)
      obtain ⟨u, d1, hu⟩ := hce k hlt
      have HTK := hide (HTR.out k hlt u wr (hu.keep HBJ.out))
      have d1 := keep_cell HBJ.out d1
      have hl1 := lt_cell d1
      obtain ⟨ua, un, uc, rfl⟩ : ∃ ua un uc, u = .slice ua un uc := by obtain ⟨a, cap, h, _⟩ := hu; exact ⟨_, _, _, h⟩
      obtain ⟨hglo, hglt⟩ := World.ownsRow.lt HO.out g rfl
      clear hce hu
      go_wp2_with fail
      refine HTK.out.mono ?_
      rintro e w2 ⟨he, hb2⟩
      have HB2 := hide hb2
      have hs2 := hb2.size
      clear hb2 HTK d1 hl1
      rcases he with ⟨ht, rfl⟩ | ⟨ht, hkin, pt, Q, rfl, hf, _, hQ⟩
      · have HN := hide (tnone_none w2)
        have HE : Hid (¬ ∀ l ∈ tss, termB l = true) := fun h => by rw [h _ (List.getElem_mem hlt)] at ht; cases ht
        clear ht
        go_wp2_with (go_at_call 48; refine HN.out.mono ?_; rintro e w3 ⟨rfl, hw⟩; have hw := hw.symm; subst hw)
        refine bodyPost_ret (v := .tuple #[.slice (some ⟨g, 0, none⟩) k cp, .bool false]) (by simp [results, Tryz.results59, go_sem]) rfl ⟨.inl ⟨HE.out, _, _, _, rfl⟩, bel_trans HBJ.out HB2.out⟩
      · have hkT : k < Ts.length := by have := HTS.out.1; omega
        obtain ⟨hsp2, hcnt2⟩ := tree_new ht hkin hf hQ (HTS.out.2 k hlt hkT)
        have HSP2 := hide hsp2
        have HTV := hide ht
        generalize pt (tss[k].length - 1) = ra at *
        have HN := hide (tnone_some ⟨ra, 0, none⟩ w2)
        obtain ⟨W4, hW4⟩ : ∃ W4, W4 = w2.alloc (.cells #[.pointer (some ⟨ra, 0, none⟩)] 72) := ⟨_, rfl⟩
        have hb4 : Below w2.heap.size w2 W4 := by rw [hW4]; exact bel_alloc (Below.refl _ _) _
        have hh4 : W4.heap[w2.heap.size]? = some (.cells #[.pointer (some ⟨ra, 0, none⟩)] 72 (0, 0)) := by rw [hW4]; exact heap_alloc_new w2 _
        have hB4 : Below wr.heap.size wr W4 := bel_trans HB2.out hb4
        have hs4 : W4.heap.size = w2.heap.size + 1 := by rw [hW4]; simp
        have HSP4 := hide (HSP2.out.keep hb4)
        have HOW4 := hide (row_keep hB4 HO.out)
        have HB4 := hide hB4
        clear ht hkin hf hQ hsp2 hb4 HSP2 hB4
        go_wp2_with (first
          | (go_at_call 48; refine HN.out.mono ?_; rintro e w3 ⟨rfl, hw⟩; have hw := hw.symm; subst hw)
          | (at_builtin
             rw [← hW4]
             refine wpList_append_lies _ rfl _ _ 75 rfl w.heap.size 72 ip (.pointer none) 1 8 Tryz.underlying75 hip hzp hsp hbp rfl (by omega) (.slice (some ⟨g, 0, none⟩) k cp) k (ps.map ptrV) rfl HOW4.out ⟨w2.heap.size, 0, none⟩ 1 1 [.pointer (some ⟨ra, 0, none⟩)] rfl rfl (World.news_of_block (cs := #[.pointer (some ⟨ra, 0, none⟩)]) (t := 72) (fr := (0, 0)) hh4) (by intro u hu; simp at hu; rcases hu with rfl; rfl) (by omega) (by unfold maxLen; omega) (by omega) (by omega) W4.heap.size rfl ?_)
          | fail)
        intro g4 cap4 w4 hown4 hgrow4 hat4 hlt4
        rw [← hW4] at hgrow4
        have hg4s : W4.heap.size ≤ w4.heap.size := hgrow4.size
        have hg4 : g = g4 ∨ g4 = W4.heap.size := by
          rcases hat4 with h | h
          · exact .inl (Option.some.inj h)
          · exact .inr (by omega)
        have HO5 : Hid (w4.ownsRow w.heap.size 72 1 (.slice (some ⟨g4, 0, none⟩) (k + 1) cap4) (k + 1) ((ps ++ [ra]).map ptrV)) := by
          show World.ownsRow _ _ _ _ _ _ _
          rw [List.map_append]
          exact hown4
        have HP5 : Hid ((ps ++ [ra]).length = k + 1) := by show _ = _; rw [List.length_append, HPL.out]; rfl
        have HB5 : Hid (Below w.heap.size w w4) := (HBJ.out.trans (HB4.out.mono hwsz)).grown hgrow4 (by omega) (fun k hk => by simp [Value.ownBlock] at hk; omega)
        have HS5 : Hid (∀ i (h1 : i < (ps ++ [ra]).length) (h2 : i < Ts.length), SpG (fun b => b < w4.heap.size ∧ b ≠ g4) w4 Ts[i] (ps ++ [ra])[i]) := fun i h1 h2 => by
          have hpl' := HPL.out
          by_cases e : i < k
          · have e2 : (ps ++ [ra])[i] = ps[i]'(by omega) := List.getElem_append_left (by omega)
            rw [e2]
            exact ((HSJ.out i (by omega) h2).keep HB4.out).row HOW4.out hgrow4 (fun b hb hl => ⟨hb.2, by omega, by rcases hg4 with h | h <;> omega⟩)
          · have ei : i = k := by simp at h1; omega
            subst ei
            have e2 : (ps ++ [ra])[i] = ra := by simp [hpl']
            rw [e2]
            exact HSP4.out.row HOW4.out hgrow4 (fun b (hb : wr.heap.size ≤ b) hl => ⟨by omega, by omega, by rcases hg4 with h | h <;> omega⟩)
        have HVA5 : Hid (∀ i (h : i < tss.length), i < k + 1 → termB tss[i] = true) := fun i h h2 => by
          by_cases e : i = k
          · subst e; exact HTV.out
          · exact HVA.out i h (by omega)
        clear hgrow4 hown4 hat4 hlt4 HSP4 HOW4 hh4 hW4 HSJ HVA
        go_wp2_with fail
        go_roundw
        case rel => exact ⟨k + 1, g4, cap4, ps ++ [ra], HQ1.out, by go_num, rfl, HP5, HO5, HS5, HVA5, HB5⟩
        case measure => have := HQ1.out; simp [intOf]; omega
    · have hlt' : ¬ (k : Int) < tss.length := by omega
      have e : k = tss.length := by omega
      subst e
      have HE : Hid (∀ l ∈ tss, termB l = true) := fun l hl => by
        obtain ⟨i, hi, rfl⟩ := List.getElem_of_mem hl
        exact HVA.out i hi hi
      go_wp2_with fail
      refine bodyPost_ret (v := .tuple #[.slice (some ⟨g, 0, none⟩) tss.length cp, .bool true]) (by simp [results, Tryz.results59, go_sem]) rfl ⟨.inr ⟨HE.out, _, ps, rfl, HPL.out, HO.out, fun i h1 h2 => (HSJ.out i h1 h2).weak (fun _ _ _ => trivial)⟩, HBJ.out⟩
end Go.Proofs.YtbgibiongnhjoaaGreat

/- What the specification's Apply answers. -/
namespace Go.Proofs.YtbgibiongnhjoaaGreat
open Go.ChangeShapes Go.WideShapes Go.ChangeAt Go.RowKit

theorem app_leaf : leafP appH 2 := fun _ h => by simp [appH] at h
set_option maxRecDepth 20000 in
set_option maxHeartbeats 8000000 in
theorem specApply_any (v vs : Value) (ts : List Td) (tss : List (List Td)) (T : Tt) (Ts : List Tt) (w : World) (hns : TNodesAt w v ts) (hnt : TermsAt w vs tss) (hsz : ∀ td ∈ ts, TLens td) (hlv : ∀ td ∈ ts, td.lv.length ≤ 1048576) (hszs : ∀ l ∈ tss, ∀ td ∈ l, TLens td) (hlvs : ∀ l ∈ tss, ∀ td ∈ l, td.lv.length ≤ 1048576) (hlen : tss.length ≤ 1048576) (hT : TreeFor ts T) (hTs : TreesFor tss Ts) :
    Calls Tryz.prog 23 #[.agg #[v], vs] w fun e w' => SOut w.heap.size w' e (appA ts tss T Ts) ∧ Below w.heap.size w w' := by
  obtain ⟨A, hA⟩ : ∃ A, A = appA ts tss T Ts := ⟨_, rfl⟩
  rw [← hA]
  have HAA := hide hA
  clear hA
  obtain ⟨W, hW⟩ : ∃ W, W = (w.alloc (.cells #[v] 28)).alloc (.cells #[.slice none 0 0] 28) := ⟨_, rfl⟩
  have hbW : Below w.heap.size w W := by rw [hW]; exact bel_alloc (bel_alloc (Below.refl w.heap.size w) _) _
  have HT := hide (l3TreeF_any v ts W (hns.keep hbW) hsz hlv)
  have HTS2 := hide (fun (w3 : World) (h : Below W.heap.size W w3) => l3Trees_any vs tss Ts w3 (hnt.keep (bel_trans hbW h)) hszs hlvs hlen hTs)
  have HBW := hide hbW
  have HTT := hide hT
  have HTS := hide hTs
  obtain ⟨a, cap, rfl, _, _, _⟩ := hns
  obtain ⟨aa, capa, rfl, _, _, _⟩ := hnt
  have c0 : W.cell? ⟨w.heap.size, 0, none⟩ = some (.slice a ts.length cap) := by rw [hW]; simp [go_sem]
  have HR : Hid (W.heap[w.heap.size + 1]? = some (.cells #[.slice none 0 0] 28 (0, 0))) := by show _ = _; rw [hW]; exact heap_alloc_at _ _ (by simp)
  have l0 := lt_cell c0
  clear hsz hlv hszs hlvs hbW hT hTs
  go_enter Tryz.func23, Tryz.ntmps23
  go_upto_region 1 with fail
  rw [← hW]
  clear hW
  go_wp2_with fail
  refine HT.out.mono ?_
  rintro e w3 ⟨he, hb3⟩
  have hrl : w.heap.size + 1 < W.heap.size := (Array.getElem?_eq_some_iff.1 HR.out).1
  have hWs := HBW.out.size
  have HB3 := hide hb3
  have HCA := hide (HTS2.out w3 hb3)
  have HBAD : Hid (∀ w' w4 : World, Below W.heap.size W w4 → w' = w4.setCell ⟨w.heap.size + 1, 0, none⟩ (.slice none 0 0) → SOut w.heap.size w' (.returned (.tuple #[.agg #[.slice none 0 0], .int .i64 1])) ([], 1) ∧ Below w.heap.size w w') := fun w' w4 h4 hw' => by
    subst hw'
    exact ⟨⟨_, rfl, frt_nil _ _⟩, (bel_trans HBW.out h4).setCell (p := ⟨_, _, _⟩) (by show _ ≤ w.heap.size + 1; omega) _⟩
  have HRW : Hid (∀ w4 : World, Below W.heap.size W w4 → w4.heap[w.heap.size + 1]? = some (.cells #[.slice none 0 0] 28 (0, 0))) := fun w4 h4 => by rw [h4.block _ hrl]; exact HR.out
  clear hb3 c0 l0 HT HTS2
  rcases he with ⟨htb, rfl⟩ | ⟨htb, hkb, ptb, Qb, rfl, hfb, _⟩
  · have HE : Hid (A = ([], 1)) := by show _ = _; rw [HAA.out]; unfold appA; rw [if_neg (by simp [htb])]
    clear htb
    go_wp2_with fail
    refine HCA.out.mono ?_
    rintro e w4 ⟨he4, hb4⟩
    have HB4 := hide (bel_trans HB3.out hb4)
    have hr4 := HRW.out w4 HB4.out
    have c4 : w4.cell? ⟨w.heap.size + 1, 0, none⟩ = some (.slice none 0 0) := by rw [Lib.cell_of_heap hr4]; rfl
    have f4 : w4.frozen? ⟨w.heap.size + 1, 0, none⟩ = false := Lib.frozen_of_heap hr4 0
    have l4 := lt_cell c4
    have HN := hide (tnone_none w4)
    clear hb4 HCA hr4
    rcases he4 with ⟨hta, xa, xn, xc, rfl⟩ | ⟨hta, v4, ps, rfl, hpl, hrow, hsp⟩
    · clear hta
      go_wp2_with (go_at_call 48; refine HN.out.mono ?_; rintro e w5 ⟨rfl, hw⟩; have hw := hw.symm; subst hw)
      exact bodyPost_ret (v := .tuple #[.agg #[.slice none 0 0], .int .i64 1]) (by simp [results, Tryz.results23, go_sem, c4]) rfl (by rw [HE.out]; exact HBAD.out _ _ HB4.out rfl)
    · obtain ⟨xa, xc, rfl⟩ := row_form hrow
      clear hta hpl hrow hsp
      go_wp2_with (go_at_call 48; refine HN.out.mono ?_; rintro e w5 ⟨rfl, hw⟩; have hw := hw.symm; subst hw)
      exact bodyPost_ret (v := .tuple #[.agg #[.slice none 0 0], .int .i64 1]) (by simp [results, Tryz.results23, go_sem, c4]) rfl (by rw [HE.out]; exact HBAD.out _ _ HB4.out rfl)
  · obtain ⟨hspb, hcb⟩ := tree_root htb hkb hfb HTT.out
    have HPB := hide (HTT.out htb).2
    generalize ptb (ts.length - 1) = rb at *
    have HSB := hide hspb
    clear hkb hfb hspb
    go_wp2_with fail
    refine HCA.out.mono ?_
    rintro e w4 ⟨he4, hb4⟩
    have HSB4 := hide (HSB.out.keep hb4)
    have HB4 := hide (bel_trans HB3.out hb4)
    have hr4 := HRW.out w4 HB4.out
    have c4 : w4.cell? ⟨w.heap.size + 1, 0, none⟩ = some (.slice none 0 0) := by rw [Lib.cell_of_heap hr4]; rfl
    have f4 : w4.frozen? ⟨w.heap.size + 1, 0, none⟩ = false := Lib.frozen_of_heap hr4 0
    have l4 := lt_cell c4
    have HN1 := hide (tnone_some ⟨rb, 0, none⟩ w4)
    clear hb4 HCA hr4 HSB
    rcases he4 with ⟨hta, xa, xn, xc, rfl⟩ | ⟨hta, v4, ps, rfl, hpl, hrow, hsp⟩
    · have HE : Hid (A = ([], 1)) := by show _ = _; rw [HAA.out]; unfold appA; rw [if_neg (fun h => hta h.2)]
      clear hta
      go_wp2_with (go_at_call 48; refine HN1.out.mono ?_; rintro e w5 ⟨rfl, hw⟩; have hw := hw.symm; subst hw)
      exact bodyPost_ret (v := .tuple #[.agg #[.slice none 0 0], .int .i64 1]) (by simp [results, Tryz.results23, go_sem, c4]) rfl (by rw [HE.out]; exact HBAD.out _ _ HB4.out rfl)
    · have HE : Hid (A = ansT (fitT (appsR T Ts))) := by show _ = _; rw [HAA.out]; unfold appA; rw [if_pos ⟨htb, hta⟩]
      have hTl : Ts.length = tss.length := HTS.out.1
      have hmem := trees_mem HTS.out hta
      have HL := hide (l3Apps_any w3.heap.size T rb Ts ps v4 w4 (HSB4.out.weak (fun _ _ _ => trivial)) (all_mono node_num HPB.out) (by rw [hTl]; exact hpl) hsp (fun x hx => all_mono node_num (hmem x hx).1) (by rw [hTl]; exact hrow) (by rw [hTl]; exact hlen))
      have HAN := hide (fun (p' : Nat) (w' : World) (Q' : Nat → Prop) (h : SpG Q' w' (appsR T Ts) p') => l3Answer_any Q' (appsR T Ts) p' w' h (apps_all app_leaf Ts T (all_mono node_leaf HPB.out) (fun x hx => all_mono node_leaf (hmem x hx).1)) (apps_all app_lev Ts T (all_mono node_lev HPB.out) (fun x hx => all_mono node_lev (hmem x hx).1)))
      obtain ⟨xa, xc, rfl⟩ := row_form hrow
      clear hta htb hmem hsp hrow hpl HSB4 HPB HAA
      go_wp2_with (first
        | (go_at_call 48; refine HN1.out.mono ?_; rintro e w5 ⟨rfl, hw⟩; have hw := hw.symm; subst hw)
        | fail)
      refine HL.out.mono ?_
      rintro e w5 ⟨p5, rfl, hs5, hb5⟩
      have HAN5 := hide (HAN.out p5 w5 _ hs5)
      have HB5 := hide (bel_trans HB4.out hb5)
      clear hs5 hb5 c4 f4 l4 HL HAN
      unfold ptrV
      go_wp2_with fail
      refine HAN5.out.mono ?_
      rintro e w6 ⟨⟨v6, rfl, hv6⟩, hb6⟩
      obtain ⟨va, vc, rfl⟩ := hv6.form
      have HB6 := hide (bel_trans HB5.out hb6)
      have hr6 := HRW.out w6 HB6.out
      have c6 : w6.cell? ⟨w.heap.size + 1, 0, none⟩ = some (.slice none 0 0) := by rw [Lib.cell_of_heap hr6]; rfl
      have f6 : w6.frozen? ⟨w.heap.size + 1, 0, none⟩ = false := Lib.frozen_of_heap hr6 0
      have l6 := lt_cell c6
      have HV6 := hide hv6
      have hw5 : W.heap.size ≤ w5.heap.size := HB5.out.size
      generalize ansT (fitT (appsR T Ts)) = rr at *
      clear hv6 hb6 HAN5 hr6
      go_wp2_with fail
      refine bodyPost_ret (v := .tuple #[.agg #[.slice va rr.1.length vc], .int .i64 rr.2]) (by simp [results, Tryz.results23, go_sem, c6]) rfl ⟨⟨_, by rw [HE.out], ?_⟩, ?_⟩
      · rw [HE.out]
        exact HV6.out.low (by omega) (p := ⟨_, _, _⟩) (by show w.heap.size + 1 < _; omega) _
      · exact (bel_trans HBW.out HB6.out).setCell (p := ⟨_, _, _⟩) (by show _ ≤ w.heap.size + 1; omega) _
end Go.Proofs.YtbgibiongnhjoaaGreat
