/- What the specification's LevelLeq answers. -/
import Derived.Test.YtgomimhelgjddaaGreatLeqS
import Derived.Test.YtgomimhelgjddaaGreatSumX
import Derived.Test.YtgomimhelgjddaaGreatStrS
import Derived.Test.YtgomimhelgjddaaGreatImpl
namespace Go.Proofs.YtgomimhelgjddaaGreat
open Go.ChangeShapes Go.WideShapes Go.ChangeAt Go.RowKit

theorem has_snoc (l : List ByteArray) (s x : ByteArray) : hasB (l ++ [s]) x = true ↔ (hasB l x = true ∨ s = x) := by
  unfold hasB
  rw [List.any_append, Bool.or_eq_true]
  simp
theorem fold_two : ∀ (ns : List Nd) (A L : List ByteArray) (c : Nat), A.length ≤ c + L.length → (∀ s, hasB L s = true → hasB A s = true) → (ns.foldl addName A).length ≤ c + (ns.foldl addName L).length
  | [], A, L, c, h, _ => h
  | nd :: ns, A, L, c, h, hh => by
    simp only [List.foldl_cons]
    unfold addName
    by_cases h5 : nd.k = 5
    · cases ha : hasB A nd.s
      · have hl : hasB L nd.s = false := by
          cases e : hasB L nd.s
          · rfl
          · rw [hh _ e] at ha; cases ha
        rw [if_pos ⟨h5, rfl⟩, if_pos ⟨h5, hl⟩]
        refine fold_two ns _ _ c (by simp; omega) (fun s hs => ?_)
        rw [has_snoc] at hs ⊢
        rcases hs with hs | hs
        · exact .inl (hh s hs)
        · exact .inr hs
      · rw [if_neg (by simp)]
        by_cases hl : hasB L nd.s = false
        · rw [if_pos ⟨h5, hl⟩]
          refine fold_two ns _ _ c (by simp; omega) (fun s hs => ?_)
          rw [has_snoc] at hs
          rcases hs with hs | hs
          · exact hh s hs
          · rw [← hs]; exact ha
        · rw [if_neg (fun c => hl c.2)]
          exact fold_two ns _ _ c h hh
    · rw [if_neg (fun c => h5 c.1), if_neg (fun c => h5 c.1)]
      exact fold_two ns _ _ c h hh
theorem names_le12 {ns1 ns2 : List Nd} {t1 t2 : Tr} (h1 : OkTree ns1 t1) (h2 : OkTree ns2 t2) : (t2.names (t1.names [])).length ≤ 12 := by
  have e1 : (t1.names []).length ≤ 6 := by rw [h1.2.2.1]; exact h1.2.2.2.2.2
  have e2 : (t2.names []).length ≤ 6 := by rw [h2.2.2.1]; exact h2.2.2.2.2.2
  rw [Tr.names_flat t2 0 _ h2.2.1] at e2 ⊢
  have := fold_two (t2.flat 0) (t1.names []) [] (t1.names []).length (by simp) (fun s hs => by simp [hasB] at hs)
  omega

end Go.Proofs.YtgomimhelgjddaaGreat

/- What the program's levelLeq answers: whether in every case the sums of one level are at most those of the other. -/
namespace Go.Proofs.YtgomimhelgjddaaGreat
open Go.ChangeShapes Go.WideShapes Go.ChangeAt Go.RowKit

theorem sums_any (vn : Value) (names : List ByteArray) (val : Nat → Int) (h6 : names.length ≤ 6) : ∀ x : It, x.cnt ≤ 1000 → SumsAt vn names val x
  | .zero, _ => sums_zero vn names val
  | .succ n x, hc => sums_succ vn names val n x hc (sums_any vn names val h6 x (by simp only [It.cnt] at hc; omega))
  | .max a b, hc => sums_max vn names val a b (sums_any vn names val h6 a (by simp only [It.cnt] at hc; omega)) (sums_any vn names val h6 b (by simp only [It.cnt] at hc; omega))
  | .imax a b, hc => sums_imax vn names val a b (sums_any vn names val h6 a (by simp only [It.cnt] at hc; omega)) (sums_any vn names val h6 b (by simp only [It.cnt] at hc; omega))
  | .param s, _ => sums_param vn names val h6 s

/-- A case in a block of its own that may be written. -/
structure CaseAt (w : World) (B : Nat) (vn : Value) (val : Nat → Int) : Prop where
  names : w.cell? ⟨B, 0, none⟩ = some vn
  cell : ∀ i, i < 6 → w.cell? ⟨B, 1 + i, none⟩ = some (.int .i64 (val i))
  free : ∀ j, w.frozen? ⟨B, j, none⟩ = false
theorem CaseAt.set {w : World} {B : Nat} {vn : Value} {val : Nat → Int} (h : CaseAt w B vn val) (i : Nat) (x : Int) : CaseAt (w.setCell ⟨B, 1 + i, none⟩ (.int .i64 x)) B vn (upd val i x) := by
  refine ⟨by rw [World.cell?_setCell_other _ _ _ _ (by simp <;> omega)]; exact h.names, fun j hj => ?_, fun j => by rw [World.frozen?_setCell]; exact h.free j⟩
  unfold upd
  by_cases e : j = i
  · subst e; rw [if_pos rfl, World.cell?_setCell_same _ _ _ (h.cell j hj)]
  · rw [if_neg e, World.cell?_setCell_other _ _ _ _ (by simp <;> omega)]; exact h.cell j hj
theorem CaseAt.congr {w : World} {B : Nat} {vn : Value} {val val' : Nat → Int} (h : CaseAt w B vn val) (e : ∀ j, j < 6 → val j = val' j) : CaseAt w B vn val' := ⟨h.names, fun i hi => by rw [h.cell i hi, e i hi], h.free⟩
theorem case_new (w : World) (vn : Value) (val : Nat → Int) : CaseAt (w.alloc (caseO vn val)) w.heap.size vn val :=
  ⟨(case_cells w vn val).1, (case_cells w vn val).2, fun _ => World.frozen?_alloc_new _ _ _ _⟩
theorem decideds_lt {names : List ByteArray} {x y : It} : ∀ {k : Nat}, ∀ i ∈ decideds names x y k, i < k
  | 0, i, h => by simp [decideds] at h
  | k + 1, i, h => by
    simp only [decideds, List.mem_append] at h
    rcases h with h | h
    · have := decideds_lt i h; omega
    · split at h
      · simp at h; omega
      · simp at h
theorem decideds_len (names : List ByteArray) (x y : It) (k : Nat) : (decideds names x y k).length ≤ k := by
  induction k with
  | zero => simp [decideds]
  | succ k ih => simp only [decideds, List.length_append]; split <;> simp <;> omega
def natV (i : Nat) : Value := .int .i64 (i : Int)
def casesLeq (names : List ByteArray) (x y : It) : Bool := (List.range (2 ^ (decideds names x y names.length).length)).all (fun z => leqB (x.sums names (valTo (decideds names x y names.length) z (decideds names x y names.length).length)) (y.sums names (valTo (decideds names x y names.length) z (decideds names x y names.length).length)))

set_option maxRecDepth 10000 in
set_option maxHeartbeats 8000000 in
theorem implLeq_any (v1 v2 : Value) (ns1 ns2 : List Nd) (t1 t2 : Tr) (w : World) (hn1 : NodesAt w v1 ns1) (hn2 : NodesAt w v2 ns2) (h1 : OkTree ns1 t1) (h2 : OkTree ns2 t2) :
    Calls Tryz.prog 65 #[.agg #[v1], .agg #[v2]] w fun e w' => e = .returned (.bool (casesLeq (namesOf ns1) t1.it t2.it)) ∧ Below w.heap.size w w' := by
  obtain ⟨i3, hi3, hz3, hs3, hby3⟩ := info_parts Tryz.info3
  have HN1 := hide hn1
  have HN2 := hide hn2
  have HT1 := hide h1
  have HT2 := hide h2
  obtain ⟨a1, cap1, rfl, _, _, _⟩ := hn1
  obtain ⟨a2, cap2, rfl, _, _, _⟩ := hn2
  have hl1 : ns1.length ≤ 64 := h1.2.2.2.2.1
  have hl2 : ns2.length ≤ 64 := h2.2.2.2.2.1
  have hnm6 : (namesOf ns1).length ≤ 6 := h1.2.2.2.2.2
  have hx1 : t1.it.cnt ≤ 1000 := by rw [it_cnt t1 h1.2.1, h1.2.2.2.1]; omega
  have hx2 : t2.it.cnt ≤ 1000 := by rw [it_cnt t2 h2.2.1, h2.2.2.2.1]; omega
  have HLT1 : Hid (∀ w', NodesAt w' (.slice a1 ns1.length cap1) ns1 → Calls Tryz.prog 110 #[.agg #[.slice a1 ns1.length cap1]] w' fun e w2 => e = .returned t1.it.val ∧ Below w'.heap.size w' w2) := fun w' h => levelTreeOf_any _ ns1 t1 w' h h1.1 h1.2.1 hl1
  have HLT2 : Hid (∀ w', NodesAt w' (.slice a2 ns2.length cap2) ns2 → Calls Tryz.prog 110 #[.agg #[.slice a2 ns2.length cap2]] w' fun e w2 => e = .returned t2.it.val ∧ Below w'.heap.size w' w2) := fun w' h => levelTreeOf_any _ ns2 t2 w' h h2.1 h2.2.1 hl2
  have HD1 := hide (decides_any t1.it)
  have HD2 := hide (decides_any t2.it)
  have HSM1 : Hid (∀ vn val, SumsAt vn (namesOf ns1) val t1.it) := fun vn val => sums_any vn _ val hnm6 _ hx1
  have HSM2 : Hid (∀ vn val, SumsAt vn (namesOf ns1) val t2.it) := fun vn val => sums_any vn _ val hnm6 _ hx2
  clear h1 h2 hl2 hx1 hx2
  unfold AskAt at HD1 HD2
  unfold SumsAt caseV at HSM1 HSM2
  generalize t1.it = x at *
  generalize t2.it = y at *
  obtain ⟨Tx, vx, hvx⟩ := x.val_iface
  obtain ⟨Ty, vy, hvy⟩ := y.val_iface
  rw [hvx] at HLT1 HD1 HSM1
  rw [hvy] at HLT2 HD2 HSM2
  clear hvx hvy HT1 HT2
  have HB0 : Hid (∀ o1 o2, Below w.heap.size w ((w.alloc o1).alloc o2)) := fun o1 o2 => bel_alloc (bel_alloc (Below.refl _ _) o1) o2
  have HLP : Hid (∀ w', NodesAt w' (.slice a1 ns1.length cap1) ns1 → Calls Tryz.prog 33 #[.agg #[.slice a1 ns1.length cap1]] w' fun e w2 => ∃ v', e = .returned v' ∧ StrsAt w2 v' (namesOf ns1) ∧ Below w'.heap.size w' w2) := fun w' h => levelParams_any _ ns1 w' h hl1
  generalize namesOf ns1 = names at *
  go_enter Tryz.func65, Tryz.ntmps65
  go_wp2_with fail
  refine (HLP.out _ (HN1.out.keep (HB0.out _ _))).mono ?_
  rintro e w1 ⟨vn, rfl, hstr1, hb1⟩
  have hbel1 := bel_trans (HB0.out _ _) hb1
  have c0 := keep_cell (b := w.heap.size) (o := 0) (v := .slice a1 ns1.length cap1) hb1 (by simp [go_sem])
  have c1 := keep_cell (b := w.heap.size + 1) (o := 0) (v := .slice a2 ns2.length cap2) hb1 (by simp [go_sem])
  have HS1 := hide hstr1
  have HB1 := hide hbel1
  clear hb1 HB0 HLP hbel1
  obtain ⟨na, nc, rfl, hna, hnc, hnn⟩ := hstr1
  clear hnn
  unfold maxLen at hnc
  go_wp2_with fail
  go_region_held3 (fun w' => w'.cell? ⟨w.heap.size, 0, none⟩ = some (.slice a1 ns1.length cap1) ∧ w'.cell? ⟨w.heap.size + 1, 0, none⟩ = some (.slice a2 ns2.length cap2))
    (first
      | go_keep
      | exact ⟨keep_cell ((Below.refl w1.heap.size w1).drew.trans (hb2.trans (hb3.mono hb2.size))) c0, keep_cell ((Below.refl w1.heap.size w1).drew.trans (hb2.trans (hb3.mono hb2.size))) c1⟩
      | exact ⟨keep_cell ((Below.refl w1.heap.size w1).drew.trans hb2) c0, keep_cell ((Below.refl w1.heap.size w1).drew.trans hb2) c1⟩
      | fail)
    (first
      | (go_at_call_of 110 (Value.agg #[Value.slice a1 ns1.length cap1]); refine (HLT1.out _ (by exact HN1.out.keep HB1.out.drew)).mono ?_; rintro e w2 ⟨rfl, hb2⟩)
      | (go_at_call_of 110 (Value.agg #[Value.slice a2 ns2.length cap2]); refine (HLT2.out _ (by exact HN2.out.keep (bel_trans HB1.out ((Below.refl w1.heap.size w1).drew.trans hb2)))).mono ?_; rintro e w3 ⟨rfl, hb3⟩)
      | fail)
  have HB3 : Hid (Below w.heap.size w w3) := bel_trans HB1.out ((Below.refl w1.heap.size w1).drew.trans (hb2.trans (hb3.mono hb2.size)))
  have HS3 := hide (HS1.out.keep ((Below.refl w1.heap.size w1).drew.trans (hb2.trans (hb3.mono hb2.size))))
  clear hb2 hb3 c0 c1 HS1 HB1
  rename_i hheld
  clear hheld HLT1 HLT2 HN1 HN2
  obtain ⟨sa, sc, hse, hsl, hsm, hsc⟩ := HS3.out
  simp only [Value.slice.injEq] at hse
  obtain ⟨rfl, -, rfl⟩ := hse
  have HSC := hide hsc
  clear hsc hsl hsm
  have HRES : Hid (casesLeq names x y = (List.range (2 ^ (decideds names x y names.length).length)).all (fun z => leqB (x.sums names (valTo (decideds names x y names.length) z (decideds names x y names.length).length)) (y.sums names (valTo (decideds names x y names.length) z (decideds names x y names.length).length)))) := rfl
  go_wp2_with fail
  go_loopw [8, 23] (fun o i wr => ∃ (k : Nat) (ds : List Nat), k ≤ names.length ∧ i = .int .i64 k ∧ Hid (ds = decideds names x y k) ∧ ds.length ≤ k ∧ wr.ownsRow w3.heap.size 3 1 o ds.length (ds.map natV) ∧ Below w3.heap.size w3 wr) (fun _ i _ => names.length - (intOf i).toNat)
  case atStart => exact ⟨0, [], by omega, rfl, rfl, by simp, ⟨rfl, .inl ⟨rfl, rfl⟩⟩, Below.refl _ _⟩
  case round =>
    obtain ⟨k, ds, hk, rfl, HDS, hdl, hown, hbel⟩ := hrel
    obtain ⟨oa, oc, rfl⟩ := row_form hown
    by_cases hlt : k < names.length
    · obtain ⟨b, off, rfl, hcc⟩ := HSC.out (by omega)
      have c1 := keep_cell hbel (hcc k hlt)
      have hlt' : (k : Int) < names.length := by omega
      have hnk : names.getD k default = names[k] := by rw [List.getD_eq_getElem?_getD, List.getElem?_eq_getElem hlt, Option.getD_some]
      have HST : Hid (decideds names x y (k + 1) = ds ++ (if decP names[k] x || decP names[k] y then [k] else [])) := by show _ ++ _ = _; rw [← HDS.out, hnk]
      clear hcc hnk
      have HD1k := hide (HD1.out names[k])
      have HD2k := hide (HD2.out names[k])
      generalize decP names[k] x = q1 at *
      generalize decP names[k] y = q2 at *
      generalize names[k] = nm at *
      have HOWN := hide hown
      clear hown
      cases q1
      · cases q2
        · simp only [Bool.or_false, Bool.false_eq_true, if_false, List.append_nil] at HST
          go_wp2_with fail
          refine (HD1k.out _).mono ?_
          rintro e w4 ⟨rfl, hb4⟩
          have hbel4 := bel_trans hbel hb4
          go_wp2_with fail
          refine (HD2k.out _).mono ?_
          rintro e w5 ⟨rfl, hb5⟩
          have hbel5 := bel_trans hbel4 hb5
          have hown5 := row_keep hb5 (row_keep hb4 HOWN.out)
          clear hb4 hb5 hbel4
          go_wp2_with fail
          go_roundw
          case rel => exact ⟨k + 1, ds, by omega, by go_num, HST.out.symm, by omega, hown5, hbel5⟩
          case measure => simp [intOf]; omega
        · simp only [Bool.or_true, if_true] at HST
          go_wp2_with fail
          refine (HD1k.out _).mono ?_
          rintro e w4 ⟨rfl, hb4⟩
          have hbel4 := bel_trans hbel hb4
          go_wp2_with fail
          refine (HD2k.out _).mono ?_
          rintro e w5 ⟨rfl, hb5⟩
          have hbel5 := bel_trans hbel4 hb5
          have hown5 := row_keep hb5 (row_keep hb4 HOWN.out)
          clear hb4 hb5 hbel4
          go_wp2_with (at_builtin; refine wpList_append_own _ rfl _ _ 26 rfl w3.heap.size 3 i3 (.int .i64 0) 1 8 Tryz.underlying26 hi3 hz3 hs3 hby3 rfl (by decide) _ _ _ rfl (hown5.alloc _) ⟨_, 0, none⟩ 1 1 [.int .i64 (k : Int)] rfl rfl ?c1 ?c2 ?c3 ?c4 ?c5 ?_)
          case c1 => exact cell_one_new _ _ _
          case c2 => first | rfl | (intro u hu; simp at hu; subst hu; rfl)
          case c3 => unfold maxLen; omega
          case c4 => omega
          case c5 => have := hbel5.size; simp; omega
          intro v6 w6 hown6 hgrow6 _
          have hbel6 : Below w3.heap.size w3 w6 := (bel_alloc hbel5 _).grown hgrow6 (bel_alloc hbel5 _).size (fun j hj => (hown5.lt j hj).1)
          have HOWN6 : Hid (w6.ownsRow w3.heap.size 3 1 v6 (ds ++ [k]).length ((ds ++ [k]).map natV)) := by
            show World.ownsRow _ _ _ _ _ _ _
            simpa [natV] using hown6
          obtain ⟨oa6, oc6, rfl⟩ := row_form hown6
          clear hown6 hgrow6 hown5
          go_wp2_with fail
          go_roundw
          case rel => exact ⟨k + 1, ds ++ [k], by omega, by go_num, HST.out.symm, by simp; omega, HOWN6.out, hbel6⟩
          case measure => simp [intOf]; omega
      · simp only [Bool.true_or, if_true] at HST
        go_wp2_with fail
        refine (HD1k.out _).mono ?_
        rintro e w5 ⟨rfl, hb5⟩
        have hbel5 := bel_trans hbel hb5
        have hown5 := row_keep hb5 HOWN.out
        clear hb5
        go_wp2_with (at_builtin; refine wpList_append_own _ rfl _ _ 26 rfl w3.heap.size 3 i3 (.int .i64 0) 1 8 Tryz.underlying26 hi3 hz3 hs3 hby3 rfl (by decide) _ _ _ rfl (hown5.alloc _) ⟨_, 0, none⟩ 1 1 [.int .i64 (k : Int)] rfl rfl ?c1 ?c2 ?c3 ?c4 ?c5 ?_)
        case c1 => exact cell_one_new _ _ _
        case c2 => first | rfl | (intro u hu; simp at hu; subst hu; rfl)
        case c3 => unfold maxLen; omega
        case c4 => omega
        case c5 => have := hbel5.size; simp; omega
        intro v6 w6 hown6 hgrow6 _
        have hbel6 : Below w3.heap.size w3 w6 := (bel_alloc hbel5 _).grown hgrow6 (bel_alloc hbel5 _).size (fun j hj => (hown5.lt j hj).1)
        have HOWN6 : Hid (w6.ownsRow w3.heap.size 3 1 v6 (ds ++ [k]).length ((ds ++ [k]).map natV)) := by
          show World.ownsRow _ _ _ _ _ _ _
          simpa [natV] using hown6
        obtain ⟨oa6, oc6, rfl⟩ := row_form hown6
        clear hown6 hgrow6 hown5
        go_wp2_with fail
        go_roundw
        case rel => exact ⟨k + 1, ds ++ [k], by omega, by go_num, HST.out.symm, by simp; omega, HOWN6.out, hbel6⟩
        case measure => simp [intOf]; omega
    · obtain rfl : names.length = k := by omega
      have HDLT : Hid (∀ i ∈ ds, i < names.length) := by show ∀ i ∈ ds, _; rw [HDS.out]; exact decideds_lt
      rw [← HDS.out] at HRES
      have hd6 : ds.length ≤ 6 := by omega
      have HWD := hide (wrap_pow ds.length (by omega))
      have hN64 : 2 ^ ds.length ≤ 4096 := pow_le ds.length (by omega)
      obtain ⟨N, hN⟩ : ∃ N : Nat, 2 ^ ds.length = N := ⟨_, rfl⟩
      rw [hN] at HWD hN64 HRES
      have HTAG : Hid (TagRow wr (.slice oa ds.length oc) (ds.map (fun i : Nat => (i : Int)))) := by
        have h : wr.ownsRow w3.heap.size 3 1 (.slice oa ds.length oc) (ds.map (fun i : Nat => (i : Int))).length ((ds.map (fun i : Nat => (i : Int))).map (Value.int .i64)) := by
          rw [List.map_map, List.length_map]; exact hown
        exact tag_of_row h
      have HBW := hide (bel_trans HB3.out hbel)
      have HSW := hide (HS3.out.keep hbel)
      clear hown HB3 HS3 hbel HSC HDS hN
      rename World => WD
      go_wp2_with fail
      go_loopw [44] (fun i wr2 => ∃ (z : Nat), z ≤ N ∧ i = .int .i64 z ∧ Hid (∀ z', z' < z → leqB (x.sums names (valTo ds z' ds.length)) (y.sums names (valTo ds z' ds.length)) = true) ∧ Hid (Below WD.heap.size WD wr2)) (fun i _ => N - (intOf i).toNat)
      case atStart => exact ⟨0, by omega, rfl, fun j h => by omega, Below.refl _ _⟩
      case round =>
        rename World => W2
        obtain ⟨z, hz, rfl, HA, HB2⟩ := hrel
        by_cases hlz : z < N
        · have hlz' : (z : Int) < wrap64 (2 ^ ds.length) := by rw [HWD.out]; omega
          have HC0 : Hid (CaseAt (W2.alloc (.cells #[.slice na names.length nc, .int .i64 0, .int .i64 0, .int .i64 0, .int .i64 0, .int .i64 0, .int .i64 0] 143)) W2.heap.size (.slice na names.length nc) (valTo ds z 0)) := (case_new W2 (.slice na names.length nc) (fun _ => 0)).congr (fun j _ => rfl)
          go_wp2_with fail
          go_loopw [51] (fun i wr3 => ∃ (k : Nat), k ≤ ds.length ∧ i = .int .i64 k ∧ Hid (CaseAt wr3 W2.heap.size (.slice na names.length nc) (valTo ds z k)) ∧ Below W2.heap.size W2 wr3) (fun i _ => ds.length - (intOf i).toNat)
          case atStart => exact ⟨0, by omega, rfl, HC0, bel_alloc (Below.refl _ _) _⟩
          case round =>
            clear HC0
            obtain ⟨k, hk, rfl, HC, hbel⟩ := hrel
            by_cases hlk : k < ds.length
            · have hlk' : (k : Int) < ds.length := by omega
              obtain ⟨ta, tc, hte, _, _, htc⟩ := (HTAG.out.keep (bel_trans HB2.out hbel)).ints
              rw [List.length_map] at hte
              simp only [Value.slice.injEq] at hte
              obtain ⟨rfl, -, rfl⟩ := hte
              obtain ⟨b, off, rfl, hcc⟩ := htc (by simp; omega)
              have c1 := hcc k (by simpa using hlk)
              simp only [List.getElem_map] at c1
              have hi := HDLT.out ds[k] (by simp)
              have e0 : ds.getD k 0 = ds[k] := by rw [List.getD_eq_getElem?_getD, List.getElem?_eq_getElem hlk, Option.getD_some]
              have hi6 : ds[k] < 6 := by omega
              have hi' : (ds[k] : Int) < 6 := by omega
              obtain ⟨u, hu⟩ : ∃ u, wr.cell? ⟨W2.heap.size, 1 + ds[k], none⟩ = some u := ⟨_, HC.out.cell _ hi6⟩
              have hf := HC.out.free (1 + ds[k])
              have hbit := bit_of z k
              have HN2 : Hid (inSet z k = false → CaseAt (wr.setCell ⟨W2.heap.size, 1 + ds[k], none⟩ (.int .i64 2)) W2.heap.size (.slice na names.length nc) (valTo ds z (k + 1))) := fun hq => (HC.out.set ds[k] 2).congr (fun j _ => by
                simp only [upd, valTo, e0, hq, Bool.false_eq_true, if_false])
              have HN1 : Hid (inSet z k = true → CaseAt ((wr.setCell ⟨W2.heap.size, 1 + ds[k], none⟩ (.int .i64 2)).setCell ⟨W2.heap.size, 1 + ds[k], none⟩ (.int .i64 1)) W2.heap.size (.slice na names.length nc) (valTo ds z (k + 1))) := fun hq => ((HC.out.set ds[k] 2).set ds[k] 1).congr (fun j _ => by
                simp only [upd, valTo, e0, hq, if_true]
                split <;> rfl)
              have hle : W2.heap.size ≤ W2.heap.size := Nat.le_refl _
              clear hcc htc HC e0
              generalize ds[k] = i at *
              by_cases hq : inSet z k = true
              · have HN := hide (HN1.out hq)
                rw [hq] at hbit
                simp only [if_true] at hbit
                clear HN1 HN2
                go_wp2_with fail
                go_roundw
                case rel => exact ⟨k + 1, by omega, by go_num, HN, (hbel.setCell (p := ⟨_, _, _⟩) hle _).setCell (p := ⟨_, _, _⟩) hle _⟩
                case measure => simp [intOf]; omega
              · have hq' : inSet z k = false := by simpa using hq
                have HN := hide (HN2.out hq')
                rw [hq'] at hbit
                simp only [Bool.false_eq_true, if_false] at hbit
                clear HN1 HN2 hq
                go_wp2_with fail
                go_roundw
                case rel => exact ⟨k + 1, by omega, by go_num, HN, hbel.setCell (p := ⟨_, _, _⟩) hle _⟩
                case measure => simp [intOf]; omega
            · obtain rfl : ds.length = k := by omega
              have HBR := hide hbel
              have HST := hide (HSW.out.keep (bel_trans HB2.out hbel))
              have k0 := HC.out.names
              have k1 := HC.out.cell 0 (by omega)
              have k2 := HC.out.cell 1 (by omega)
              have k3 := HC.out.cell 2 (by omega)
              have k4 := HC.out.cell 3 (by omega)
              have k5 := HC.out.cell 4 (by omega)
              have k6 := HC.out.cell 5 (by omega)
              simp only [Nat.reduceAdd] at k1 k2 k3 k4 k5 k6
              have HX := hide (HSM1.out (.slice na names.length nc) (valTo ds z ds.length))
              have HY := hide (HSM2.out (.slice na names.length nc) (valTo ds z ds.length))
              obtain ⟨q, hq⟩ : ∃ q, leqB (x.sums names (valTo ds z ds.length)) (y.sums names (valTo ds z ds.length)) = q := ⟨_, rfl⟩
              have HLQ : Hid (∀ w', Calls Tryz.prog 112 #[(x.sums names (valTo ds z ds.length)).val, (y.sums names (valTo ds z ds.length)).val] w' fun e w2 => e = .returned (.bool q) ∧ Below w'.heap.size w' w2) := by
                intro w'
                rw [← hq]
                exact sumsLeq_any _ _ w'
              have HQ := hide hq
              have HQ2 := hide hq
              clear hq HC
              obtain ⟨S, hS⟩ : ∃ S, x.sums names (valTo ds z ds.length) = S := ⟨_, rfl⟩
              obtain ⟨R, hR⟩ : ∃ R, y.sums names (valTo ds z ds.length) = R := ⟨_, rfl⟩
              rw [hS] at HX HLQ
              rw [hR] at HY HLQ
              obtain ⟨vz, hvz⟩ : ∃ vz, valTo ds z ds.length = vz := ⟨_, rfl⟩
              rw [hvz] at HX HY k1 k2 k3 k4 k5 k6
              clear hS hR hvz
              rw [show S.val = .agg #[.int .i64 S.least, .int .i64 (S.tops 0), .int .i64 (S.tops 1), .int .i64 (S.tops 2), .int .i64 (S.tops 3), .int .i64 (S.tops 4), .int .i64 (S.tops 5)] from rfl] at HX HLQ
              rw [show R.val = .agg #[.int .i64 R.least, .int .i64 (R.tops 0), .int .i64 (R.tops 1), .int .i64 (R.tops 2), .int .i64 (R.tops 3), .int .i64 (R.tops 4), .int .i64 (R.tops 5)] from rfl] at HY HLQ
              cases q
              · have HF : Hid (casesLeq names x y = false) := by
                  show _ = false
                  rw [HRES.out, List.all_eq_false]
                  exact ⟨z, by simpa using hlz, by rw [HQ2.out]; simp⟩
                clear HQ
                go_wp2_with fail
                go_region_held3 (fun w' => w'.cell? ⟨W2.heap.size, 0, none⟩ = some (.slice na names.length nc) ∧ w'.cell? ⟨W2.heap.size, 1, none⟩ = some (.int .i64 (vz 0)) ∧ w'.cell? ⟨W2.heap.size, 2, none⟩ = some (.int .i64 (vz 1)) ∧ w'.cell? ⟨W2.heap.size, 3, none⟩ = some (.int .i64 (vz 2)) ∧ w'.cell? ⟨W2.heap.size, 4, none⟩ = some (.int .i64 (vz 3)) ∧ w'.cell? ⟨W2.heap.size, 5, none⟩ = some (.int .i64 (vz 4)) ∧ w'.cell? ⟨W2.heap.size, 6, none⟩ = some (.int .i64 (vz 5)))
                  (first
                    | go_keep
                    | exact ⟨keep_cell (bel_trans ((Below.refl wr.heap.size wr).drew.trans (hb5.trans (hb6.mono hb5.size))) hb7) k0, keep_cell (bel_trans ((Below.refl wr.heap.size wr).drew.trans (hb5.trans (hb6.mono hb5.size))) hb7) k1, keep_cell (bel_trans ((Below.refl wr.heap.size wr).drew.trans (hb5.trans (hb6.mono hb5.size))) hb7) k2, keep_cell (bel_trans ((Below.refl wr.heap.size wr).drew.trans (hb5.trans (hb6.mono hb5.size))) hb7) k3, keep_cell (bel_trans ((Below.refl wr.heap.size wr).drew.trans (hb5.trans (hb6.mono hb5.size))) hb7) k4, keep_cell (bel_trans ((Below.refl wr.heap.size wr).drew.trans (hb5.trans (hb6.mono hb5.size))) hb7) k5, keep_cell (bel_trans ((Below.refl wr.heap.size wr).drew.trans (hb5.trans (hb6.mono hb5.size))) hb7) k6⟩
                    | exact ⟨keep_cell ((Below.refl wr.heap.size wr).drew.trans (hb5.trans (hb6.mono hb5.size))) k0, keep_cell ((Below.refl wr.heap.size wr).drew.trans (hb5.trans (hb6.mono hb5.size))) k1, keep_cell ((Below.refl wr.heap.size wr).drew.trans (hb5.trans (hb6.mono hb5.size))) k2, keep_cell ((Below.refl wr.heap.size wr).drew.trans (hb5.trans (hb6.mono hb5.size))) k3, keep_cell ((Below.refl wr.heap.size wr).drew.trans (hb5.trans (hb6.mono hb5.size))) k4, keep_cell ((Below.refl wr.heap.size wr).drew.trans (hb5.trans (hb6.mono hb5.size))) k5, keep_cell ((Below.refl wr.heap.size wr).drew.trans (hb5.trans (hb6.mono hb5.size))) k6⟩
                    | exact ⟨keep_cell ((Below.refl wr.heap.size wr).drew.trans hb5) k0, keep_cell ((Below.refl wr.heap.size wr).drew.trans hb5) k1, keep_cell ((Below.refl wr.heap.size wr).drew.trans hb5) k2, keep_cell ((Below.refl wr.heap.size wr).drew.trans hb5) k3, keep_cell ((Below.refl wr.heap.size wr).drew.trans hb5) k4, keep_cell ((Below.refl wr.heap.size wr).drew.trans hb5) k5, keep_cell ((Below.refl wr.heap.size wr).drew.trans hb5) k6⟩
                    | fail)
                  (first
                    | (go_at_call_of 113 (Value.iface Tx vx); refine (HX.out _ (by exact HST.out.keep (Below.refl wr.heap.size wr).drew)).mono ?_; rintro e w5 ⟨rfl, hb5⟩)
                    | (go_at_call_of 113 (Value.iface Ty vy); refine (HY.out _ (by exact HST.out.keep ((Below.refl wr.heap.size wr).drew.trans hb5))).mono ?_; rintro e w6 ⟨rfl, hb6⟩)
                    | (go_at_call 112; refine (HLQ.out _).mono ?_; rintro e w7 ⟨rfl, hb7⟩)
                    | fail)
                have hbR : Below WD.heap.size WD w7 := bel_trans HB2.out (bel_trans HBR.out (bel_trans ((Below.refl wr.heap.size wr).drew.trans (hb5.trans (hb6.mono hb5.size))) hb7))
                go_wp2_with fail
                go_ret
                exact ⟨ret_bool HF.out.symm, bel_trans HBW.out hbR⟩
              · have HA2 : Hid (∀ z', z' < z + 1 → leqB (x.sums names (valTo ds z' ds.length)) (y.sums names (valTo ds z' ds.length)) = true) := by
                  intro z' hz'
                  by_cases e : z' = z
                  · subst e; exact HQ2.out
                  · exact HA.out z' (by omega)
                clear HQ
                go_wp2_with fail
                go_region_held3 (fun w' => w'.cell? ⟨W2.heap.size, 0, none⟩ = some (.slice na names.length nc) ∧ w'.cell? ⟨W2.heap.size, 1, none⟩ = some (.int .i64 (vz 0)) ∧ w'.cell? ⟨W2.heap.size, 2, none⟩ = some (.int .i64 (vz 1)) ∧ w'.cell? ⟨W2.heap.size, 3, none⟩ = some (.int .i64 (vz 2)) ∧ w'.cell? ⟨W2.heap.size, 4, none⟩ = some (.int .i64 (vz 3)) ∧ w'.cell? ⟨W2.heap.size, 5, none⟩ = some (.int .i64 (vz 4)) ∧ w'.cell? ⟨W2.heap.size, 6, none⟩ = some (.int .i64 (vz 5)))
                  (first
                    | go_keep
                    | exact ⟨keep_cell (bel_trans ((Below.refl wr.heap.size wr).drew.trans (hb5.trans (hb6.mono hb5.size))) hb7) k0, keep_cell (bel_trans ((Below.refl wr.heap.size wr).drew.trans (hb5.trans (hb6.mono hb5.size))) hb7) k1, keep_cell (bel_trans ((Below.refl wr.heap.size wr).drew.trans (hb5.trans (hb6.mono hb5.size))) hb7) k2, keep_cell (bel_trans ((Below.refl wr.heap.size wr).drew.trans (hb5.trans (hb6.mono hb5.size))) hb7) k3, keep_cell (bel_trans ((Below.refl wr.heap.size wr).drew.trans (hb5.trans (hb6.mono hb5.size))) hb7) k4, keep_cell (bel_trans ((Below.refl wr.heap.size wr).drew.trans (hb5.trans (hb6.mono hb5.size))) hb7) k5, keep_cell (bel_trans ((Below.refl wr.heap.size wr).drew.trans (hb5.trans (hb6.mono hb5.size))) hb7) k6⟩
                    | exact ⟨keep_cell ((Below.refl wr.heap.size wr).drew.trans (hb5.trans (hb6.mono hb5.size))) k0, keep_cell ((Below.refl wr.heap.size wr).drew.trans (hb5.trans (hb6.mono hb5.size))) k1, keep_cell ((Below.refl wr.heap.size wr).drew.trans (hb5.trans (hb6.mono hb5.size))) k2, keep_cell ((Below.refl wr.heap.size wr).drew.trans (hb5.trans (hb6.mono hb5.size))) k3, keep_cell ((Below.refl wr.heap.size wr).drew.trans (hb5.trans (hb6.mono hb5.size))) k4, keep_cell ((Below.refl wr.heap.size wr).drew.trans (hb5.trans (hb6.mono hb5.size))) k5, keep_cell ((Below.refl wr.heap.size wr).drew.trans (hb5.trans (hb6.mono hb5.size))) k6⟩
                    | exact ⟨keep_cell ((Below.refl wr.heap.size wr).drew.trans hb5) k0, keep_cell ((Below.refl wr.heap.size wr).drew.trans hb5) k1, keep_cell ((Below.refl wr.heap.size wr).drew.trans hb5) k2, keep_cell ((Below.refl wr.heap.size wr).drew.trans hb5) k3, keep_cell ((Below.refl wr.heap.size wr).drew.trans hb5) k4, keep_cell ((Below.refl wr.heap.size wr).drew.trans hb5) k5, keep_cell ((Below.refl wr.heap.size wr).drew.trans hb5) k6⟩
                    | fail)
                  (first
                    | (go_at_call_of 113 (Value.iface Tx vx); refine (HX.out _ (by exact HST.out.keep (Below.refl wr.heap.size wr).drew)).mono ?_; rintro e w5 ⟨rfl, hb5⟩)
                    | (go_at_call_of 113 (Value.iface Ty vy); refine (HY.out _ (by exact HST.out.keep ((Below.refl wr.heap.size wr).drew.trans hb5))).mono ?_; rintro e w6 ⟨rfl, hb6⟩)
                    | (go_at_call 112; refine (HLQ.out _).mono ?_; rintro e w7 ⟨rfl, hb7⟩)
                    | fail)
                have hbR : Below WD.heap.size WD w7 := bel_trans HB2.out (bel_trans HBR.out (bel_trans ((Below.refl wr.heap.size wr).drew.trans (hb5.trans (hb6.mono hb5.size))) hb7))
                go_wp2_with fail
                go_roundw
                case rel => exact ⟨z + 1, by omega, by go_num, HA2, hbR⟩
                case measure => simp [intOf]; omega
        · have HF : Hid (casesLeq names x y = true) := by
            show _ = true
            rw [HRES.out, List.all_eq_true]
            intro z' hz'
            exact HA.out z' (by have : z' < N := by simpa using hz'
                                omega)
          have hge : wrap64 (2 ^ ds.length) ≤ (z : Int) := by rw [HWD.out]; omega
          clear HA HTAG HDLT HSM1 HSM2 HD1 HD2 HSW HRES HWD
          generalize wrap64 (2 ^ ds.length) = M at *
          clear hN64 hd6 hz hlz hdl
          go_wp2_with fail
          go_ret
          exact ⟨ret_bool HF.out.symm, bel_trans HBW.out HB2.out⟩
end Go.Proofs.YtgomimhelgjddaaGreat

/- The two ways to hold levels against each other say the same. -/
namespace Go.Proofs.YtgomimhelgjddaaGreat
open Go.ChangeShapes Go.WideShapes Go.ChangeAt Go.RowKit

theorem leq_same {ns1 ns2 : List Nd} {t1 t2 : Tr} (h1 : OkTree ns1 t1) (h2 : OkTree ns2 t2) : casesLeq (namesOf ns1) t1.it t2.it = triesLeq t1 t2 (t2.names (t1.names [])) := by
  have e1 := h1.2.2.1
  rw [Bool.eq_iff_iff]
  unfold casesLeq triesLeq
  rw [List.all_eq_true, List.all_eq_true]
  have h := leq_iff (t1 := t1) (t2 := t2) h1.2.1 h2.2.1 (by have := h2.2.2.2; omega) (names := namesOf ns1) (all := t2.names (t1.names [])) h1.2.2.2.2.2 (by rw [← e1]; exact names_pre t2 _) (fun s hs => by rw [← e1]; exact names_params t1 [] s hs) (names_params t2 _) (names_le12 h1 h2)
  constructor
  · intro H vs hvs
    rw [decide_eq_true_eq]
    exact h.2 (fun z hz => (leqB_iff _ _).1 (H z (by simpa using hz))) vs hvs
  · intro H z hz
    refine (leqB_iff _ _).2 (h.1 (fun vs hvs => ?_) z (by simpa using hz))
    have := H vs hvs
    rwa [decide_eq_true_eq] at this

end Go.Proofs.YtgomimhelgjddaaGreat
