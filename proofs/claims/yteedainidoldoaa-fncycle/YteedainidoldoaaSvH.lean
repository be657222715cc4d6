/- The specification's search for the first cycle, walked. -/
import Derived.Test.YteedainidoldoaaSvG
import Derived.Deep.CutRange
namespace Go.Proofs.Yteedainidoldoaa
open Go.ChangeShapes Go.WideShapes Go.ChangeAt Go.RowKit

def natI (l : List Nat) : List Value := l.map (fun i : Nat => Value.int .i64 (i : Int))
theorem natI_len (l : List Nat) : (natI l).length = l.length := by simp [natI]
theorem natI_ints {w : World} {base g n cap : Nat} {l : List Nat} (h : w.ownsRow base 3 1 (.slice (some ⟨g, 0, none⟩) n cap) n (natI l)) (hl : l.length = n) : IntsAt w (.slice (some ⟨g, 0, none⟩) n cap) (l.map (fun i : Nat => (i : Int))) := by
  refine ownsRow_ints h (by simp [hl]) (fun j hj => ?_)
  simp at hj
  simp [natI, hj]
def lenOf (v : Value) : Nat := match v with
  | .slice _ n _ => n
  | _ => 0
set_option maxRecDepth 20000 in
set_option maxHeartbeats 4000000 in
theorem l2First_any (m : Nat) (v : Value) (cs : List Cn) (w : World) (hn : ConsAt w v cs) (hok : consB m cs = true) :
    Calls Try.prog 22 #[.int .i64 m, v] w fun e w' => ∃ v', e = .returned v' ∧ IntsAt w' v' ((firstS m (cs.map ctC) cs.length).map (fun i : Nat => (i : Int))) ∧ Below w.heap.size w w' := by
  obtain ⟨i3, hi3, hz3, hs3, hb3⟩ := info_parts Try.info3
  have HN := hide hn
  obtain ⟨a2, cap2, rfl, hlc2, hcm2, hc2⟩ := hn
  unfold maxLen at hcm2
  have H2 := hide hc2
  obtain ⟨⟨g1, g2, g3⟩, g4⟩ := consB_yes hok
  have HS := hide g4
  have HOK := hide hok
  clear hc2 g4 hok g1
  have hm30 : m ≤ 30 := by omega
  go_enter Try.func22, Try.ntmps22
  go_wp2_with fail
  have HR0 : Hid ((w.alloc (Obj.cells #[] 3)).ownsRow w.heap.size 3 1 (.slice (some ⟨w.heap.size, 0, none⟩) 0 0) 0 (natI (firstS m (cs.map ctC) 0))) := by
    have h := World.ownsRow_lit (base := w.heap.size) (e := 3) (size := 1) w #[] 0 (by simp) (by unfold maxLen; omega) rfl
    exact h
  have HB0 : Hid (Below w.heap.size w (w.alloc (Obj.cells #[] 3))) := bel_alloc (Below.refl w.heap.size w) _
  generalize w.alloc (Obj.cells #[] 3) = w1 at *
  go_loopw [5, 6] (fun vf sv wr => ∃ t g c L : Nat, t ≤ cs.length ∧ sv = .int .i64 t ∧ vf = .slice (some ⟨g, 0, none⟩) L c ∧ L ≤ 31 ∧ Hid (L = (firstS m (cs.map ctC) t).length) ∧ Hid (wr.ownsRow w.heap.size 3 1 (.slice (some ⟨g, 0, none⟩) L c) L (natI (firstS m (cs.map ctC) t))) ∧ Hid (Below w.heap.size w wr)) (fun _ sv _ => cs.length - (intOf sv).toNat)
  case atStart => exact ⟨0, _, _, _, by omega, rfl, rfl, by omega, rfl, HR0, HB0⟩
  case round =>
    clear HR0 HB0
    obtain ⟨t, g, c, L, ht, rfl, rfl, hL31, HL, HR, HB⟩ := hrel
    by_cases hlt : t < cs.length
    · have hlt' : (t : Int) < cs.length := by omega
      obtain ⟨b, off, rfl, hc⟩ := H2.out (by omega)
      obtain ⟨c1, c2, c3⟩ := (hc t hlt).keep HB.out
      obtain ⟨s1, s2, s3, s4, s5, s6⟩ := HS.out t hlt
      obtain ⟨M, hM⟩ : ∃ M, mostS m (firstS m (cs.map ctC) t) = M := ⟨_, rfl⟩
      have hM31 : M ≤ 31 := by
        rw [← hM]
        unfold mostS
        split
        · omega
        · have := firstS_len m (cs.map ctC) t; omega
      have HM := hide hM
      have HN1 := hide (HN.out.keep HB.out)
      have hM0 : L = 0 → M = m + 1 := fun h0 => by
        rw [← hM]; unfold mostS
        rw [if_pos (List.eq_nil_of_length_eq_zero (by rw [← HL.out]; exact h0))]
      have hM1 : ¬ L = 0 → M = L - 1 := fun h0 => by
        rw [← hM]; unfold mostS
        rw [if_neg (fun e => h0 (by rw [HL.out, e]; rfl)), ← HL.out]
      have HM0 := hide hM0
      have HM1 := hide hM1
      have HCT := hide (l2Best_any _ cs m cs[t] M wr HN1.out HOK.out s1 hM31)
      have HCC : Hid (∀ W, Below w.heap.size w W → ∀ i (h : i < cs.length), ConAt W b (off + i * 3) cs[i]) := fun W hW i hi => (hc i hi).keep hW
      clear hM hM0 hM1 hc
      have hwm : IntKind.i64.wrap ((m : Int) + 1) = (m : Int) + 1 := by rw [IntKind.wrap_i64]; omega
      have hwl : IntKind.i64.wrap ((L : Int) - 1) = (L : Int) - 1 := by rw [IntKind.wrap_i64]; omega
      go_upto_if 25 with fail
      go_cut [7] from 26 to 28 (fun mv wx => mv = .int .i64 M ∧ wx = wr)
      case first =>
        by_cases h0 : L = 0
        · have e := HM0.out h0
          subst h0
          go_wp2_with fail
          go_meet
          exact ⟨by rw [e]; rfl, rfl⟩
        · have e := HM1.out h0
          have hp : (0 : Int) < L := by omega
          have hpn : 0 < L := by omega
          go_wp2_with fail
          go_meet
          exact ⟨by rw [e, show ((L - 1 : Nat) : Int) = (L : Int) - 1 by omega], rfl⟩
      case rest =>
        obtain ⟨rfl, hwc⟩ := hcut
        subst hwc
        clear HM0 HM1
        go_wp2_with (first | (go_at_call 33; refine HCT.out.mono ?_; rintro e w3 ⟨v3, rfl, hO3, hb3'⟩) | fail)
        obtain ⟨go, co, rfl, hrow⟩ := hO3.cells
        have HROW := hide hrow
        have HB3 : Hid (Below w.heap.size w w3) := bel_trans HB.out hb3'
        have HR3 := hide (row_keep hb3' HR.out)
        have hsz3 := HB3.out.size
        clear hrow hO3 hb3' HCT HB HR c1 c2 c3
        have HQ0 : Hid (∀ l', l' < 0 → cyQ (cs.map ctC) l' t = false) := fun l' h => by omega
        go_loopw [9] (fun kv wx => ∃ l : Nat, l ≤ M ∧ kv = .int .i64 ((l : Int) + 1) ∧ wx = w3 ∧ Hid (∀ l', l' < l → cyQ (cs.map ctC) l' t = false)) (fun kv _ => M + 1 - (intOf kv).toNat)
        case atStart => exact ⟨0, by omega, rfl, rfl, HQ0⟩
        case round =>
          clear HQ0
          obtain ⟨l, hl, rfl, hwx, HQ⟩ := hrel
          subst hwx
          rename World => w3
          by_cases hlM : l < M
          · have hlM' : (l : Int) + 1 ≤ M := by omega
            obtain ⟨gq, hg1, hg2⟩ := HROW.out l hlM
            have x1 := hg1 w3 (Below.refl _ _)
            have x2 := hg2 w3 (Below.refl _ _) t hlt
            have hcy := cyQ_vl (cs := cs) (l := l) hlt
            obtain ⟨Y, hY⟩ : ∃ Y, vl cs[t].n (ib (cs.map ctC) l (ctC cs[t]).b (ctC cs[t]).a) = Y := ⟨_, rfl⟩
            rw [hY] at x2 hcy
            clear hY hg1 hg2
            by_cases hY0 : Y ≤ 0
            · have d0 : decide (Y ≤ 0) = true := decide_eq_true hY0
              have HQ1 : Hid (∀ l', l' < l + 1 → cyQ (cs.map ctC) l' t = false) := fun l' h => by
                by_cases e : l' = l
                · rw [e, hcy]; simp; omega
                · exact HQ.out l' (by omega)
              have hw1 : IntKind.i64.wrap ((l : Int) + 1 + 1) = (l : Int) + 1 + 1 := by rw [IntKind.wrap_i64]; omega
              clear hcy hY0
              go_wp2_with fail
              go_roundw
              case rel => exact ⟨l + 1, by omega, by go_num, by first | trivial | rfl, HQ1⟩
              case measure => simp [intOf]; omega
            · have d0 : decide (Y ≤ 0) = false := decide_eq_false hY0
              have HST := hide (stepS_yes (n := m) (found := firstS m (cs.map ctC) t) (s := t) (cs := cs.map ctC) (l := l) (by rw [HM.out]; exact hlM) HQ.out (by rw [hcy]; simp; omega))
              have HG0 : Hid (gt0 cs[t].n (ib (cs.map ctC) l (ctC cs[t]).b (ctC cs[t]).a) = true) := by
                have h : cyQ (cs.map ctC) l t = true := by rw [hcy]; simp; omega
                unfold cyQ at h
                rw [cAt_map hlt] at h
                exact h
              have HLS : Hid (lst (cs.map ctC) l t = [] ++ t :: gr (cs.map ctC) (ctC cs[t]).a l cs[t].n (ctC cs[t]).b) := by
                show _ = _
                unfold lst
                rw [cAt_map hlt]
                rfl
              have hkM : ¬ (M : Int) < (l : Int) + 1 := by omega
              clear hcy hY0 HQ
              obtain ⟨c1, c2, c3⟩ := HCC.out w3 HB3.out t hlt
              obtain ⟨cn, hcn⟩ : ∃ x, cs[t].n = x := ⟨_, rfl⟩
              rw [hcn] at c2
              have HCN := hide hcn
              have hbl := lt_cell c2
              clear hcn c1 c3
              obtain ⟨home, hhome⟩ : ∃ x, (ctC cs[t]).a = x := ⟨_, rfl⟩
              have HR0 : Hid ((w3.alloc (Obj.cells #[.int .i64 (t : Int)] 3)).ownsRow w3.heap.size 3 1 (.slice (some ⟨w3.heap.size, 0, none⟩) (0 + 1) 1) (0 + 1) (natI ([] ++ [t]))) := by
                have h := World.ownsRow_lit (base := w3.heap.size) (e := 3) (size := 1) w3 #[.int .i64 (t : Int)] 1 (by simp) (by unfold maxLen; omega) rfl
                exact h
              have HBA0 : Hid (Below w3.heap.size w3 (w3.alloc (Obj.cells #[.int .i64 (t : Int)] 3))) := bel_alloc (Below.refl w3.heap.size w3) _
              have HLS0 : Hid (lst (cs.map ctC) l t = [] ++ t :: gr (cs.map ctC) home (l - 0) cn (ctC cs[t]).b) := by show _ = _; rw [← hhome, ← HCN.out]; exact HLS.out
              have HG1 : Hid (gt0 cn (ib (cs.map ctC) (l - 0) (ctC cs[t]).b home) = true) := by show _ = _; rw [← hhome, ← HCN.out]; exact HG0.out
              have HROW2 : Hid (∀ l, l < M → ∃ gq, (∀ W, Below w3.heap.size w3 W → W.cell? ⟨go, l + 1, none⟩ = some (.slice (some ⟨gq, 0, none⟩) cs.length cs.length)) ∧ ∀ W, Below w3.heap.size w3 W → ∀ j (h : j < cs.length), W.cell? ⟨gq, j, none⟩ = some (.int .i64 (vl cs[j].n (ib (cs.map ctC) l (ctC cs[j]).b home)))) := by rw [← hhome]; exact HROW.out
              have hcnb : -1000 * ((0 : Nat) + 1 : Int) ≤ cn ∧ cn ≤ 1000 * ((0 : Nat) + 1 : Int) := by rw [← HCN.out]; omega
              clear HLS HG0 hhome HROW HCN
              go_wp2_with fail
              generalize w3.alloc (Obj.cells #[.int .i64 (t : Int)] 3) = w4 at *
              clear x1 x2
              go_loopw [5, 10] (fun vf sv wx => ∃ (q g' c' e : Nat) (ps : List Nat) (sum : Int) (he : e < cs.length), q ≤ l ∧ vf = .slice (some ⟨g', 0, none⟩) (q + 1) c' ∧ sv = .int .i64 sum ∧ -1000 * ((q : Nat) + 1 : Int) ≤ sum ∧ sum ≤ 1000 * ((q : Nat) + 1 : Int) ∧ Hid (ps.length = q) ∧ Hid (wx.ownsRow w3.heap.size 3 1 (.slice (some ⟨g', 0, none⟩) (q + 1) c') (q + 1) (natI (ps ++ [e]))) ∧ Hid (lst (cs.map ctC) l t = ps ++ e :: gr (cs.map ctC) home (l - q) sum (ctC cs[e]).b) ∧ Hid (gt0 sum (ib (cs.map ctC) (l - q) (ctC cs[e]).b home) = true) ∧ Hid (Below w3.heap.size w3 wx)) (fun vf _ _ => l + 1 - (lenOf vf))
              case atStart => exact ⟨0, _, _, t, [], cn, hlt, by omega, rfl, rfl, hcnb.1, hcnb.2, rfl, HR0, HLS0, HG1, HBA0⟩
              case round =>
                clear HR0 HBA0 HLS0 HG1
                obtain ⟨q, g', c', e, ps, sum, he, hql, rfl, rfl, hs1, hs2, HPS, HRF, HLS, HG, HBX⟩ := hrel
                rename World => wx
                by_cases hq : q < l
                · have hq' : (q : Int) + 1 < (l : Int) + 1 := by omega
                  obtain ⟨lf, hlf⟩ : ∃ lf, l - q = lf + 1 := ⟨l - q - 1, by omega⟩
                  have hlf' : lf < M := by omega
                  have hlf1000 : lf ≤ 1000 := by omega
                  have HSe := HS.out e he
                  have hgr := gr_step HOK.out hlf1000 (last := cs[e]) HSe.2.2.1 (by rw [← hlf]; exact HG.out)
                  obtain ⟨i0, hi0, hgr1, hgr2, hgr3, hgr4⟩ := hgr
                  have HGR1 := hide hgr1
                  have HGR2 := hide hgr2
                  have HGR3 := hide hgr3
                  have HGR4 := hide hgr4
                  have HLS1 : Hid (lst (cs.map ctC) l t = ps ++ e :: i0 :: gr (cs.map ctC) home lf (sum + cs[i0].n) (ctC cs[i0]).b) := by
                    show _ = _
                    rw [HLS.out, hlf, hgr1]
                  clear hgr1 hgr2 hgr3 hgr4 HLS HG
                  have HBX2 : Hid (Below w.heap.size w wx) := bel_trans HB3.out HBX.out
                  obtain ⟨l1, l2, l3⟩ := HCC.out wx HBX2.out e he
                  have cf := HRF.out.cellAt q (by omega)
                  have ef : (natI (ps ++ [e]))[q]? = some (.int .i64 (e : Int)) := by
                    unfold natI
                    rw [List.getElem?_map, List.getElem?_append_right (by rw [HPS.out]; exact Nat.le_refl _), HPS.out]
                    simp
                  rw [ef] at cf
                  clear ef
                  have hbx := lt_cell l1
                  have hgx := lt_cell cf
                  obtain ⟨ea, hea⟩ : ∃ x, cs[e].a = x := ⟨_, rfl⟩
                  obtain ⟨en, hen⟩ : ∃ x, cs[e].n = x := ⟨_, rfl⟩
                  obtain ⟨eb, heb⟩ : ∃ x, cs[e].b = x := ⟨_, rfl⟩
                  rw [hea] at l1
                  rw [hen] at l2
                  rw [heb] at l3
                  have HE := hide (And.intro hea (And.intro hen heb))
                  clear hea hen heb HSe
                  have hwq : IntKind.i64.wrap ((q : Int) + 1 - 1) = (q : Int) := by rw [IntKind.wrap_i64]; omega
                  have hwq3 : IntKind.i64.wrap (q : Int) = (q : Int) := by rw [IntKind.wrap_i64]; omega
                  have hwl1 : IntKind.i64.wrap ((l : Int) + 1 - ((q : Int) + 1)) = (lf : Int) + 1 := by rw [IntKind.wrap_i64]; omega
                  have hwl2 : IntKind.i64.wrap ((l : Int) - (q : Int)) = (lf : Int) + 1 := by rw [IntKind.wrap_i64]; omega
                  have he' : (e : Int) < cs.length := by omega
                  have HLF := hide hlf
                  clear hlf
                  have HR5 : Hid ((wx.alloc (Obj.cells #[.int .i64 ea, .int .i64 en, .int .i64 eb] 42)).ownsRow w3.heap.size 3 1 (.slice (some ⟨g', 0, none⟩) (q + 1) c') (q + 1) (natI (ps ++ [e]))) := HRF.out.alloc _
                  have HBX5 : Hid (Below w3.heap.size w3 (wx.alloc (Obj.cells #[.int .i64 ea, .int .i64 en, .int .i64 eb] 42))) := bel_alloc HBX.out _
                  have HLC : Hid ((wx.alloc (Obj.cells #[.int .i64 ea, .int .i64 en, .int .i64 eb] 42)).cell? ⟨wx.heap.size, 0, none⟩ = some (.int .i64 ea) ∧ (wx.alloc (Obj.cells #[.int .i64 ea, .int .i64 en, .int .i64 eb] 42)).cell? ⟨wx.heap.size, 1, none⟩ = some (.int .i64 en) ∧ (wx.alloc (Obj.cells #[.int .i64 ea, .int .i64 en, .int .i64 eb] 42)).cell? ⟨wx.heap.size, 2, none⟩ = some (.int .i64 eb)) := by
                    refine ⟨?_, ?_, ?_⟩ <;> simp [go_sem]
                  go_wp2_with fail
                  generalize wx.alloc (Obj.cells #[.int .i64 ea, .int .i64 en, .int .i64 eb] 42) = W5 at *
                  obtain ⟨nb, hnb⟩ : ∃ nb, wx.heap.size = nb := ⟨_, rfl⟩
                  rw [hnb] at HLC ⊢
                  clear hnb l1 l2 l3 cf HRF HBX HBX2 hbx hgx
                  obtain ⟨gp, hgp1, hgp2⟩ := HROW2.out lf hlf'
                  have HGP1 := hide hgp1
                  have HGP2 := hide hgp2
                  clear hgp1 hgp2
                  go_loopw [13] (fun nv wy => ∃ x : Nat, x ≤ i0 ∧ nv = .int .i64 x ∧ Hid (Below W5.heap.size W5 wy)) (fun nv _ => i0 - (intOf nv).toNat)
                  case atStart => exact ⟨0, by omega, rfl, Below.refl W5.heap.size W5⟩
                  case round =>
                    obtain ⟨x, hx, rfl, HBY⟩ := hrel
                    rename World => wy
                    have hxl : x < cs.length := by omega
                    have hxl' : (x : Int) < cs.length := by omega
                    have HB5 : Hid (Below w3.heap.size w3 wy) := bel_trans HBX5.out HBY.out
                    have HBW : Hid (Below w.heap.size w wy) := bel_trans HB3.out HB5.out
                    obtain ⟨d1, d2, d3⟩ := HCC.out wy HBW.out x hxl
                    obtain ⟨k1, k2, k3⟩ := HLC.out
                    have k1 := keep_cell HBY.out k1
                    have k2 := keep_cell HBY.out k2
                    have k3 := keep_cell HBY.out k3
                    have y1 := HGP1.out wy HB5.out
                    have y2 := HGP2.out wy HB5.out x hxl
                    obtain ⟨t1, t2, t3, t4, t5, t6⟩ := HS.out x hxl
                    have hokx : okN cs home lf sum cs[e] x = (joinB cs[e] cs[x] && (decide (vl cs[x].n (ib (cs.map ctC) lf (ctC cs[x]).b home) ≠ NoW) && decide (0 < sum + vl cs[x].n (ib (cs.map ctC) lf (ctC cs[x]).b home)))) := by
                      unfold okN
                      rw [show cs.getD x default = cs[x] by simp [List.getD, hxl]]
                    have hin : ∀ c ∈ cs.map ctC, -1000 ≤ c.n ∧ c.n ≤ 1000 := fun c hc => by
                      obtain ⟨d, hd, rfl⟩ := List.mem_map.1 hc
                      obtain ⟨z, hz, rfl⟩ := List.getElem_of_mem hd
                      have := HS.out z hz
                      exact ⟨this.2.2.2.2.1, this.2.2.2.2.2⟩
                    have hyin := vl_in (ib_in hin lf (ctC cs[x]).b home) ⟨t5, t6⟩ (by omega)
                    obtain ⟨Z, hZ⟩ : ∃ Z, vl cs[x].n (ib (cs.map ctC) lf (ctC cs[x]).b home) = Z := ⟨_, rfl⟩
                    obtain ⟨J, hJ⟩ : ∃ J, joinB cs[e] cs[x] = J := ⟨_, rfl⟩
                    rw [hZ] at y2 hyin hokx
                    rw [hJ] at hokx
                    obtain ⟨da, hda⟩ : ∃ z, cs[x].a = z := ⟨_, rfl⟩
                    obtain ⟨dn, hdn⟩ : ∃ z, cs[x].n = z := ⟨_, rfl⟩
                    obtain ⟨db, hdb⟩ : ∃ z, cs[x].b = z := ⟨_, rfl⟩
                    have HJ : Hid (∀ w : World, Calls Try.prog 32 #[.agg #[.int .i64 ea, .int .i64 en, .int .i64 eb], .agg #[.int .i64 da, .int .i64 dn, .int .i64 db]] w fun e w' => e = .returned (.bool J) ∧ Below w.heap.size w w') := fun w => by
                      have h := l2Joins_any cs[e] cs[x] w
                      rw [hJ, HE.out.1, HE.out.2.1, HE.out.2.2, hda, hdn, hdb] at h
                      exact h
                    have HDN : Hid (cs[x].n = dn) := hdn
                    rw [hda] at d1
                    rw [hdn] at d2 t5 t6
                    rw [hdb] at d3
                    clear hda hdn hdb hZ hJ hin t1 t2 t3 t4
                    have hZb : -1099511627776 ≤ Z ∧ Z ≤ 1100000 := by unfold NoW at hyin; omega
                    clear hyin
                    have hws : IntKind.i64.wrap (sum + Z) = sum + Z := by rw [IntKind.wrap_i64]; omega
                    have hwx : IntKind.i64.wrap ((x : Int) + 1) = (x : Int) + 1 := by rw [IntKind.wrap_i64]; omega
                    have hlM2 : (lf : Int) + 1 < (M : Int) + 1 := by omega
                    have hlM3 : (0 : Int) ≤ (lf : Int) + 1 := by omega
                    have HOKX := hide hokx
                    clear hokx
                    haveI := bel_ne wy.heap.size wy
                    have ka1 : ∀ p : Bel wy.heap.size wy, p.w'.cell? ⟨nb, 0, none⟩ = some (.int .i64 ea) := fun p => keep_cell p.h k1
                    have ka2 : ∀ p : Bel wy.heap.size wy, p.w'.cell? ⟨nb, 1, none⟩ = some (.int .i64 en) := fun p => keep_cell p.h k2
                    have ka3 : ∀ p : Bel wy.heap.size wy, p.w'.cell? ⟨nb, 2, none⟩ = some (.int .i64 eb) := fun p => keep_cell p.h k3
                    have da1 : ∀ p : Bel wy.heap.size wy, p.w'.cell? ⟨b, off + x * 3, none⟩ = some (.int .i64 da) := fun p => keep_cell p.h d1
                    have da2 : ∀ p : Bel wy.heap.size wy, p.w'.cell? ⟨b, off + x * 3 + 1, none⟩ = some (.int .i64 dn) := fun p => keep_cell p.h d2
                    have da3 : ∀ p : Bel wy.heap.size wy, p.w'.cell? ⟨b, off + x * 3 + 2, none⟩ = some (.int .i64 db) := fun p => keep_cell p.h d3
                    have ya1 : ∀ p : Bel wy.heap.size wy, p.w'.cell? ⟨go, lf + 1, none⟩ = some (.slice (some ⟨gp, 0, none⟩) cs.length cs.length) := fun p => keep_cell p.h y1
                    have ya2 : ∀ p : Bel wy.heap.size wy, p.w'.cell? ⟨gp, x, none⟩ = some (.int .i64 Z) := fun p => keep_cell p.h y2
                    by_cases hxi : x < i0
                    · have hno := HGR4.out x hxi
                      rw [HOKX.out] at hno
                      cases J with
                      | false =>
                        clear hno
                        go_wp2_with fail
                        refine wp_region_belH wy.heap.size (by kernel_rfl) (by kernel_rfl) (fun Q' hQ' => ?_)
                        repeat (refine QW.step (fun K hK => ?_); go_simp; first | (refine hK _ ?_; clear hK K) | (apply Exists.intro; refine ⟨fun _ => ?_, hK _ ?_⟩; (first | (go_at_call 32; exact calls_bel (Nat.le_refl _) (HJ.out _)) | (go_at_call 34; exact calls_bel_same (l2None_any _))); clear hK K))
                        refine QW.nil ?_
                        refine hQ'.out _ (fun p => ?_)
                        clear hQ'
                        have HBY2 : Hid (Below W5.heap.size W5 p.w') := bel_trans HBY.out p.h
                        go_wp2_with fail
                        go_roundw
                        case rel => exact ⟨x + 1, by omega, by go_num, HBY2⟩
                        case measure => simp [intOf]; omega
                      | true =>
                        by_cases hZN : Z = NoW
                        · have e0 : (Z == NoW) = true := by simp [hZN]
                          clear hno hZN
                          go_wp2_with fail
                          refine wp_region_belH wy.heap.size (by kernel_rfl) (by kernel_rfl) (fun Q' hQ' => ?_)
                          repeat (refine QW.step (fun K hK => ?_); go_simp; first | (refine hK _ ?_; clear hK K) | (apply Exists.intro; refine ⟨fun _ => ?_, hK _ ?_⟩; (first | (go_at_call 32; exact calls_bel (Nat.le_refl _) (HJ.out _)) | (go_at_call 34; exact calls_bel_same (l2None_any _))); clear hK K))
                          refine QW.nil ?_
                          refine hQ'.out _ (fun p => ?_)
                          clear hQ'
                          have HBY2 : Hid (Below W5.heap.size W5 p.w') := bel_trans HBY.out p.h
                          go_wp2_with fail
                          go_roundw
                          case rel => exact ⟨x + 1, by omega, by go_num, HBY2⟩
                          case measure => simp [intOf]; omega
                        · have e0 : (Z == NoW) = false := by simp [hZN]
                          have e1 : decide (sum + Z ≤ 0) = true := by
                            simp [hZN] at hno
                            simp
                            omega
                          clear hno hZN
                          go_wp2_with fail
                          refine wp_region_belH wy.heap.size (by kernel_rfl) (by kernel_rfl) (fun Q' hQ' => ?_)
                          repeat (refine QW.step (fun K hK => ?_); go_simp; first | (refine hK _ ?_; clear hK K) | (apply Exists.intro; refine ⟨fun _ => ?_, hK _ ?_⟩; (first | (go_at_call 32; exact calls_bel (Nat.le_refl _) (HJ.out _)) | (go_at_call 34; exact calls_bel_same (l2None_any _))); clear hK K))
                          refine QW.nil ?_
                          refine hQ'.out _ (fun p => ?_)
                          clear hQ'
                          have HBY2 : Hid (Below W5.heap.size W5 p.w') := bel_trans HBY.out p.h
                          go_wp2_with fail
                          go_roundw
                          case rel => exact ⟨x + 1, by omega, by go_num, HBY2⟩
                          case measure => simp [intOf]; omega
                    · have exi : x = i0 := by omega
                      have hyes := HGR3.out
                      rw [← exi, HOKX.out] at hyes
                      simp only [Bool.and_eq_true, decide_eq_true_eq] at hyes
                      obtain ⟨hJt, hZN, hpos⟩ := hyes
                      subst hJt
                      have e0 : (Z == NoW) = false := by simp [hZN]
                      have e1 : decide (sum + Z ≤ 0) = false := by simp; omega
                      clear hZN hpos hxi
                      subst exi
                      go_wp2_with fail
                      refine wp_region_belH wy.heap.size (by kernel_rfl) (by kernel_rfl) (fun Q' hQ' => ?_)
                      repeat (refine QW.step (fun K hK => ?_); go_simp; first | (refine hK _ ?_; clear hK K) | (apply Exists.intro; refine ⟨fun _ => ?_, hK _ ?_⟩; (first | (go_at_call 32; exact calls_bel (Nat.le_refl _) (HJ.out _)) | (go_at_call 34; exact calls_bel_same (l2None_any _))); clear hK K))
                      refine QW.nil ?_
                      refine hQ'.out _ (fun p => ?_)
                      clear hQ'
                      have HBY2 : Hid (Below W5.heap.size W5 p.w') := bel_trans HBY.out p.h
                      have HB6 : Hid (Below w3.heap.size w3 p.w') := bel_trans HBX5.out HBY2.out
                      have HR6 := hide (row_keep HBY2.out HR5.out)
                      have c2 := da2 p
                      have hbl6 := lt_cell c2
                      clear ka1 ka2 ka3 da1 da2 da3 ya1 ya2 k1 k2 k3 d1 d2 d3 y1 y2 HR5
                      have hs6 := HB6.out.size
                      generalize p.w' = w6 at *
                      have hws2 : IntKind.i64.wrap (sum + dn) = sum + dn := by rw [IntKind.wrap_i64]; omega
                      go_wp2_with (first
                        | (at_builtin
                           refine wpList_append_lies _ rfl _ _ 24 rfl w3.heap.size 3 i3 (.int .i64 0) 1 8 Try.underlying24 hi3 hz3 hs3 hb3 rfl (by omega) (.slice (some ⟨g', 0, none⟩) (q + 1) c') (q + 1) (natI (ps ++ [e])) rfl (HR6.out.alloc _) ⟨w6.heap.size, 0, none⟩ 1 1 [.int .i64 (x : Int)] rfl rfl (cell_one_new _ _ _) (by intro u hu; simp at hu; rcases hu with rfl; rfl) (by omega) (by unfold maxLen; omega) (by omega) (by simp; omega) _ rfl ?_)
                        | fail)
                      intro g7 cap7 w7 hown7 hgrow7 hat7 hlt7
                      have HR7 : Hid (w7.ownsRow w3.heap.size 3 1 (.slice (some ⟨g7, 0, none⟩) (q + 1 + 1) cap7) (q + 1 + 1) (natI ((ps ++ [e]) ++ [x]))) := by
                        have h := hown7
                        show World.ownsRow _ _ _ _ _ _ _
                        unfold natI
                        rw [List.map_append]
                        exact h
                      have HB7 : Hid (Below w3.heap.size w3 w7) := (bel_alloc HB6.out _).grown hgrow7 (by simp; omega) (fun z hz => by cases hz; exact (World.ownsRow.lt HR6.out g' rfl).1)
                      have HLS2 : Hid (lst (cs.map ctC) l t = (ps ++ [e]) ++ x :: gr (cs.map ctC) home (l - (q + 1)) (sum + dn) (ctC cs[x]).b) := by
                        show _ = _
                        rw [HLS1.out, show l - (q + 1) = lf by have := HLF.out; omega, ← HDN.out]
                        simp
                      have HG2 : Hid (gt0 (sum + dn) (ib (cs.map ctC) (l - (q + 1)) (ctC cs[x]).b home) = true) := by
                        show _ = _
                        rw [show l - (q + 1) = lf by have := HLF.out; omega, ← HDN.out]
                        exact HGR2.out
                      have HPS2 : Hid ((ps ++ [e]).length = q + 1) := by show _ = _; simp [HPS.out]
                      clear hown7 hgrow7 hat7 hlt7 HR6 HB6
                      go_wp2_with fail
                      go_roundw
                      case rel => exact ⟨q + 1, g7, cap7, x, ps ++ [e], sum + dn, hxl, by omega, rfl, rfl, by omega, by omega, HPS2, HR7, HLS2, HG2, HB7⟩
                      case measure => simp [lenOf]; omega
                · have hq' : ¬ (q : Int) + 1 < (l : Int) + 1 := by omega
                  have eql : q = l := by omega
                  subst eql
                  have hw1 : IntKind.i64.wrap ((t : Int) + 1) = (t : Int) + 1 := by rw [IntKind.wrap_i64]; omega
                  have HF1 : Hid (firstS m (cs.map ctC) (t + 1) = ps ++ [e]) := by
                    show stepS m (cs.map ctC) (firstS m (cs.map ctC) t) t = ps ++ [e]
                    rw [HST.out, HLS.out, Nat.sub_self]
                    rfl
                  have HR5 := hide (row_le HRF.out hsz3)
                  have HB5 : Hid (Below w.heap.size w wx) := bel_trans HB3.out HBX.out
                  have hlen5 : q + 1 = (ps ++ [e]).length := by simp [HPS.out]
                  have HL5 := hide hlen5
                  clear hlen5 HRF HLS HG
                  go_wp2_with fail
                  go_roundw
                  case rel => exact ⟨t + 1, g', c', q + 1, by omega, by go_num, rfl, by omega, by rw [HF1.out]; exact HL5, by rw [HF1.out]; exact HR5, HB5⟩
                  case measure => simp [intOf]; omega
          · have hlM' : ¬ (l : Int) + 1 ≤ M := by omega
            have elM : l = M := by omega
            subst elM
            have HST := hide (stepS_no (n := m) (found := firstS m (cs.map ctC) t) (s := t) (cs := cs.map ctC) (by rw [HM.out]; exact HQ.out))
            have hw1 : IntKind.i64.wrap ((t : Int) + 1) = (t : Int) + 1 := by rw [IntKind.wrap_i64]; omega
            have HF1 : Hid (firstS m (cs.map ctC) (t + 1) = firstS m (cs.map ctC) t) := HST.out
            have hgt : (l : Int) < (l : Int) + 1 := by omega
            go_wp2_with fail
            go_roundw
            case rel => exact ⟨t + 1, g, c, L, by omega, by go_num, rfl, hL31, by rw [HF1.out]; exact HL, by rw [HF1.out]; exact HR3, HB3⟩
            case measure => simp [intOf]; omega
    · have hlt' : ¬ (t : Int) < cs.length := by omega
      have et : t = cs.length := by omega
      subst et
      have HO := hide (natI_ints HR.out HL.out.symm)
      clear HR HL
      go_wp2_with fail
      go_ret
      exact ⟨_, rfl, HO.out, HB.out⟩
end Go.Proofs.Yteedainidoldoaa
