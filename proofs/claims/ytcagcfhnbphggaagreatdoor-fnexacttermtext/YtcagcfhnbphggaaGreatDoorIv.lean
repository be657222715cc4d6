/- The program's trees of levels as values, and what the making of them answers: succAround, levelTreeOf. -/
import Derived.Test.YtcagcfhnbphggaaGreatDoorIt
import Derived.BigRegion
namespace Go.Proofs.YtcagcfhnbphggaaGreatDoor
open Go.ChangeShapes Go.WideShapes Go.ChangeAt Go.RowKit


def It.val : It → Value
  | .zero => .iface 129 (.agg #[])
  | .succ n x => .iface 127 (.agg #[.int .i64 n, x.val])
  | .max a b => .iface 132 (.agg #[a.val, b.val])
  | .imax a b => .iface 133 (.agg #[a.val, b.val])
  | .param s => .iface 135 (.agg #[.string s])
theorem It.val_iface : ∀ x : It, ∃ T v, x.val = .iface T v
  | .zero => ⟨_, _, rfl⟩
  | .succ _ _ => ⟨_, _, rfl⟩
  | .max _ _ => ⟨_, _, rfl⟩
  | .imax _ _ => ⟨_, _, rfl⟩
  | .param _ => ⟨_, _, rfl⟩

theorem Tryz.as152_144 (v : Value) (w : World) : (Instr.typeAssert (.iface 129 v) 110 127 true).run Tryz.prog w = .ok (.tuple #[.agg #[.int .i64 0, .nilIface], .bool false]) w := by kernel_rfl
theorem Tryz.as146_144 (v : Value) (w : World) : (Instr.typeAssert (.iface 132 v) 110 127 true).run Tryz.prog w = .ok (.tuple #[.agg #[.int .i64 0, .nilIface], .bool false]) w := by kernel_rfl
theorem Tryz.as147_144 (v : Value) (w : World) : (Instr.typeAssert (.iface 133 v) 110 127 true).run Tryz.prog w = .ok (.tuple #[.agg #[.int .i64 0, .nilIface], .bool false]) w := by kernel_rfl
theorem Tryz.as149_144 (v : Value) (w : World) : (Instr.typeAssert (.iface 135 v) 110 127 true).run Tryz.prog w = .ok (.tuple #[.agg #[.int .i64 0, .nilIface], .bool false]) w := by kernel_rfl
theorem Tryz.as144_144 (v : Value) (w : World) : (Instr.typeAssert (.iface 127 v) 110 127 true).run Tryz.prog w = .ok (.tuple #[v, .bool true]) w := by kernel_rfl

set_option maxHeartbeats 1000000 in
theorem succAround_any (x : It) (w : World) (hc : x.cnt ≤ 1000) : Calls Tryz.prog 90 #[x.val, .int .i64 1] w fun e w' => e = .returned (sAround x).val ∧ Below w.heap.size w w' := by
  cases x with
  | zero =>
    have a1 := Tryz.as152_144
    simp only [It.val, sAround]
    go_enter Tryz.func90, Tryz.ntmps90
    go_wp2_with fail
    go_ret
    exact ⟨rfl, bel_alloc (Below.refl _ _) _⟩
  | succ n y =>
    have a1 := Tryz.as144_144
    obtain ⟨T, v, hv⟩ := y.val_iface
    simp only [It.val, sAround, hv]
    simp only [It.cnt] at hc
    have hn : n ≤ 1000 := by omega
    have HE : Hid (Ending.returned (.iface 127 (.agg #[.int .i64 ((n : Int) + 1), .iface T v])) = .returned (.iface 127 (.agg #[.int .i64 ((n + 1 : Nat) : Int), .iface T v]))) := by show _ = _; simp
    clear hc hv
    go_enter Tryz.func90, Tryz.ntmps90
    go_wp2_with fail
    go_ret
    exact ⟨HE.out, bel_alloc (Below.refl _ _) _⟩
  | max a b =>
    have a1 := Tryz.as146_144
    obtain ⟨Ta, va, ha⟩ := a.val_iface
    obtain ⟨Tb, vb, hb⟩ := b.val_iface
    simp only [It.val, sAround, ha, hb]
    clear ha hb hc
    go_enter Tryz.func90, Tryz.ntmps90
    go_wp2_with fail
    go_ret
    exact ⟨rfl, bel_alloc (Below.refl _ _) _⟩
  | imax a b =>
    have a1 := Tryz.as147_144
    obtain ⟨Ta, va, ha⟩ := a.val_iface
    obtain ⟨Tb, vb, hb⟩ := b.val_iface
    simp only [It.val, sAround, ha, hb]
    clear ha hb hc
    go_enter Tryz.func90, Tryz.ntmps90
    go_wp2_with fail
    go_ret
    exact ⟨rfl, bel_alloc (Below.refl _ _) _⟩
  | param s =>
    have a1 := Tryz.as149_144
    simp only [It.val, sAround]
    go_enter Tryz.func90, Tryz.ntmps90
    go_wp2_with fail
    go_ret
    exact ⟨rfl, bel_alloc (Below.refl _ _) _⟩

theorem Tryz.info110 : (Tryz.prog.info? 110).map (fun i => (i.zero, i.size, i.bytes)) = some (some .nilIface, 1, 16) := by kernel_rfl

theorem flat_cnt {ns : List Nd} {t : Tr} (h : ns = t.flat 0) : ns.length = t.cnt := by rw [h, Tr.flat_len]
theorem ys_put {ys : List Value} {its : List It} {k : Nat} (x : It) (hx : its[k]? = some x) (hl : k < ys.length) (h : ∀ j a, j < k → its[j]? = some a → ys[j]? = some a.val) : ∀ j a, j < k + 1 → its[j]? = some a → (ys.set k x.val)[j]? = some a.val := by
  intro j a hj ha
  by_cases e : j = k
  · subst e
    rw [hx] at ha
    cases ha
    rw [List.getElem?_set_self hl]
  · rw [List.getElem?_set_ne (by omega)]; exact h j a (by omega) ha
theorem its_cnt : ∀ (t : Tr), t.ok → ∀ x ∈ t.its, x.cnt ≤ t.cnt
  | .leaf k s, hok, x, hx => by
    simp only [Tr.its, List.mem_singleton] at hx
    rw [hx, it_cnt _ hok]; exact Nat.le_refl _
  | .one k s a, hok, x, hx => by
    have hok' := hok
    simp only [Tr.its, List.mem_append, List.mem_singleton] at hx
    rcases hx with hx | hx
    · have := its_cnt a hok.2.2 x hx
      simp only [Tr.cnt]; omega
    · rw [hx, it_cnt _ hok']; exact Nat.le_refl _
  | .two k s a b, hok, x, hx => by
    have hok' := hok
    simp only [Tr.its, List.mem_append, List.mem_singleton] at hx
    rcases hx with (hx | hx) | hx
    · have := its_cnt a hok.2.2.1 x hx
      simp only [Tr.cnt]; omega
    · have := its_cnt b hok.2.2.2 x hx
      simp only [Tr.cnt]; omega
    · rw [hx, it_cnt _ hok']; exact Nat.le_refl _

set_option maxRecDepth 10000 in
set_option maxHeartbeats 4000000 in
theorem levelTreeOf_any (v : Value) (ns : List Nd) (t : Tr) (w : World) (hns : NodesAt w v ns) (hflat : ns = t.flat 0) (hok : t.ok) (hl : ns.length ≤ 64) :
    Calls Tryz.prog 74 #[.agg #[v]] w fun e w' => e = .returned t.it.val ∧ Below w.heap.size w w' := by
  obtain ⟨i0, hi, hz0, hz1, hz2⟩ := info_parts Tryz.info110
  have hpos : 0 < ns.length := by have := Tr.cnt_pos t; rw [flat_cnt hflat]; omega
  have HLAST : Hid (t.its[ns.length - 1]? = some t.it) := by show _ = _; rw [flat_cnt hflat]; exact its_last t
  have HITS : Hid (t.its.length = ns.length) := by show _ = _; rw [flat_cnt hflat]; exact its_len t
  have HND : Hid (∀ i nd x, ns[i]? = some nd → t.its[i]? = some x → NodeIt 0 nd i t.its x) := by
    intro i nd x h1 h2
    rw [hflat] at h1
    exact its_node t 0 hok i nd x h1 h2
  have HCN : Hid (∀ x ∈ t.its, x.cnt ≤ 1000) := fun x hx => by
    have := its_cnt t hok x hx
    have := flat_cnt hflat
    omega
  obtain ⟨a, cap, rfl, hlc, hcm, hc⟩ := hns
  obtain ⟨b, off, rfl, hcc⟩ := hc hpos
  have HC := hide hcc
  unfold maxLen at hcm
  clear hc hcc hflat hok
  have hpos' : (0 : Int) < ns.length := by omega
  have HB0 : Hid ((w.alloc (.cells #[.slice (some ⟨b, off, none⟩) ns.length cap] 94)).cell? ⟨w.heap.size, 0, none⟩ = some (.slice (some ⟨b, off, none⟩) ns.length cap)) := by show _ = _; simp [go_sem]
  go_enter Tryz.func74, Tryz.ntmps74
  go_wp2_with (at_make; refine wpList_make_full _ rfl _ _ 136 rfl w.heap.size 110 i0 .nilIface 1 Tryz.underlying136 hi hz0 hz1 .i64 .i64 _ _ ns.length rfl rfl rfl rfl (by rw [hz2]; omega) (by unfold maxLen; omega) (by simp) ?_; intro w1 hown hgrow; have hbox := hgrow.cell HB0.out (by simp))
  have hbel1 : Below w.heap.size w w1 := (bel_alloc (Below.refl _ _) _).grown hgrow (by simp) (fun k hk => by cases hk)
  have hsz1 : w.heap.size + 1 < w1.heap.size := by have := (hown.lt _ rfl).2; simpa using this
  rw [World.size_alloc] at hown
  clear hgrow
  go_loopw [13] (fun i wr => ∃ (k : Nat) (ys : List Value), k ≤ ns.length ∧ i = .int .i64 k ∧ wr.ownsRow w.heap.size 110 1 (.slice (some ⟨w.heap.size + 1, 0, none⟩) ns.length ns.length) ns.length ys ∧ Hid (∀ j a, j < k → t.its[j]? = some a → ys[j]? = some a.val) ∧ w.heap.size + 1 < wr.heap.size ∧ Below w.heap.size w wr) (fun i _ => ns.length - (intOf i).toNat)
  case atStart => exact ⟨0, _, by omega, rfl, hown, fun j _ h => by omega, hsz1, hbel1⟩
  case round =>
    obtain ⟨k, ys, hk, rfl, hownr, HX, hsz, hbel⟩ := hrel
    clear hown hbel1 hsz1 hbox HB0
    by_cases hlt : k < ns.length
    · have hlt' : (k : Int) < ns.length := by omega
      obtain ⟨x, hx⟩ : ∃ x, t.its[k]? = some x := ⟨t.its[k]'(by rw [HITS.out]; omega), by rw [List.getElem?_eq_getElem]⟩
      have hni := HND.out k ns[k] x (by rw [List.getElem?_eq_getElem hlt]) hx
      obtain ⟨c1, c2, kv, c3, hkv⟩ := (HC.out k hlt).keep hbel
      have hyl := hownr.1
      have HP := hide (ys_put x hx (by omega) HX.out)
      have hst := (hownr.stored k x.val).1
      have HST := hide (hst)
      have hfz := hownr.frozenAt k
      have hce := hownr.cellAt k (by omega)
      rw [List.getElem?_eq_getElem (by omega)] at hce
      have HROW := hide hownr
      have HGET : Hid (∀ (q : Nat) (a : It), q < k → t.its[q]? = some a → wr.cell? ⟨w.heap.size + 1, q, none⟩ = some a.val) := fun q a hq ha => by
        rw [HROW.out.cellAt q (by omega)]; exact HX.out q a hq ha
      have HCX : Hid (∀ (q : Nat) (a : It), t.its[q]? = some a → a.cnt ≤ 1000) := fun q a ha => HCN.out a (List.mem_of_getElem? ha)
      have hlb := lt_cell c1
      clear hownr hst
      generalize ns[k] = nd at *
      obtain ⟨nk, nss, nkids⟩ := nd
      rcases hni with ⟨h1, h2⟩ | ⟨h1, h2⟩ | ⟨h1, q, a, h3, h4, h5, h6⟩ | ⟨h1, q, r, a, b', h3, h4, h5, h6, h7, h8⟩ | ⟨h1, q, r, a, b', h3, h4, h5, h6, h7, h8⟩
      · simp only at h1 c1 c2
        subst h1 h2
        obtain ⟨ka, kc, rfl, _, _, _⟩ := hkv
        go_wp2_with fail
        go_roundw
        case rel => exact ⟨k + 1, _, by omega, by go_num, HST.out.alloc _, HP, by show _ < (World.alloc _ _).heap.size; rw [World.size_alloc, size_set]; omega, bel_alloc (hbel.setCell (p := ⟨_, _, _⟩) (by show w.heap.size ≤ w.heap.size + 1; omega) _) _⟩
        case measure => simp [intOf]; omega
      · simp only at h1 c1 c2
        subst h1 h2
        obtain ⟨ka, kc, rfl, _, _, _⟩ := hkv
        go_wp2_with fail
        go_roundw
        case rel => exact ⟨k + 1, _, by omega, by go_num, HST.out.alloc _, HP, by show _ < (World.alloc _ _).heap.size; rw [World.size_alloc, size_set]; omega, bel_alloc (hbel.setCell (p := ⟨_, _, _⟩) (by show w.heap.size ≤ w.heap.size + 1; omega) _) _⟩
        case measure => simp [intOf]; omega
      · simp only at h1 h3 c1 c2 hkv
        subst h1 h3 h6
        obtain ⟨ka, kc, rfl, hk1, hk2, hkc⟩ := hkv
        obtain ⟨kb, ko, rfl, hkcc⟩ := hkc (by simp)
        have e0 := hkcc 0 (by simp)
        simp only [List.getElem_cons_zero, Nat.zero_add, Nat.add_zero] at e0
        have g0 := HGET.out q a h4 h5
        obtain ⟨Ta, va, hva⟩ := a.val_iface
        have HSA := hide (succAround_any a)
        have HCA := hide (HCX.out q a h5)
        obtain ⟨Ts, vs, hvs⟩ := (sAround a).val_iface
        rw [hvs] at HP HST HSA
        rw [hva] at g0 HSA
        have hq' : (q : Int) < ns.length := by omega
        have hlk := lt_cell e0
        simp only [List.length_singleton] at hk1
        clear hkcc hkc HGET HX hx h5 hva hvs
        go_wp2_with fail
        refine (HSA.out _ HCA.out).mono ?_
        rintro e w2 ⟨rfl, hb2⟩
        have hbw2 : Below wr.heap.size wr w2 := bel_trans (bel_alloc (Below.refl _ _) _) hb2
        have hbel2 := bel_trans hbel hbw2
        have hrow2 := row_keep hbw2 HROW.out
        have hst2 := (hrow2.stored k (.iface Ts vs)).1
        have hfz2 := hrow2.frozenAt k
        have hce2 := hrow2.cellAt k (by omega)
        rw [List.getElem?_eq_getElem (by omega)] at hce2
        have hsz2 : w.heap.size + 1 < w2.heap.size := by have := hbw2.size; omega
        clear hb2 hrow2 HST hbw2
        go_wp2_with fail
        go_roundw
        case rel => exact ⟨k + 1, _, by omega, by go_num, hst2, HP, by rw [size_set]; omega, hbel2.setCell (p := ⟨_, _, _⟩) (by show w.heap.size ≤ w.heap.size + 1; omega) _⟩
        case measure => simp [intOf]; omega
      · simp only at h1 h3 c1 c2 hkv
        subst h1 h3 h8
        obtain ⟨ka, kc, rfl, hk1, hk2, hkc⟩ := hkv
        obtain ⟨kb, ko, rfl, hkcc⟩ := hkc (by simp)
        have e0 := hkcc 0 (by simp)
        have e1 := hkcc 1 (by simp)
        simp only [List.getElem_cons_zero, List.getElem_cons_succ, Nat.zero_add, Nat.add_zero] at e0 e1
        have g0 := HGET.out q a h4 h6
        have g1 := HGET.out r b' h5 h7
        obtain ⟨Ta, va, hva⟩ := a.val_iface
        obtain ⟨Tb, vb, hvb⟩ := b'.val_iface
        rw [hva] at g0
        rw [hvb] at g1
        simp only [It.val, hva, hvb] at HP HST
        have hq' : (q : Int) < ns.length := by omega
        have hr' : (r : Int) < ns.length := by omega
        have hlk := lt_cell e0
        simp only [List.length_cons, List.length_nil] at hk1
        clear hkcc hkc HGET HX hx h6 h7 hva hvb
        go_wp2_with fail
        go_region
        go_wp2_with fail
        go_roundw
        case rel => exact ⟨k + 1, _, by omega, by go_num, (HST.out.alloc _).drew, HP, by show _ < (World.alloc _ _).heap.size; rw [World.size_alloc, size_set]; omega, (bel_alloc (hbel.setCell (p := ⟨_, _, _⟩) (by show w.heap.size ≤ w.heap.size + 1; omega) _) _).drew⟩
        case measure => simp [intOf]; omega
      · simp only at h1 h3 c1 c2 hkv
        subst h1 h3 h8
        obtain ⟨ka, kc, rfl, hk1, hk2, hkc⟩ := hkv
        obtain ⟨kb, ko, rfl, hkcc⟩ := hkc (by simp)
        have e0 := hkcc 0 (by simp)
        have e1 := hkcc 1 (by simp)
        simp only [List.getElem_cons_zero, List.getElem_cons_succ, Nat.zero_add, Nat.add_zero] at e0 e1
        have g0 := HGET.out q a h4 h6
        have g1 := HGET.out r b' h5 h7
        obtain ⟨Ta, va, hva⟩ := a.val_iface
        obtain ⟨Tb, vb, hvb⟩ := b'.val_iface
        rw [hva] at g0
        rw [hvb] at g1
        simp only [It.val, hva, hvb] at HP HST
        have hq' : (q : Int) < ns.length := by omega
        have hr' : (r : Int) < ns.length := by omega
        have hlk := lt_cell e0
        simp only [List.length_cons, List.length_nil] at hk1
        clear hkcc hkc HGET HX hx h6 h7 hva hvb
        go_wp2_with fail
        go_region
        go_wp2_with fail
        go_roundw
        case rel => exact ⟨k + 1, _, by omega, by go_num, (HST.out.alloc _).drew, HP, by show _ < (World.alloc _ _).heap.size; rw [World.size_alloc, size_set]; omega, (bel_alloc (hbel.setCell (p := ⟨_, _, _⟩) (by show w.heap.size ≤ w.heap.size + 1; omega) _) _).drew⟩
        case measure => simp [intOf]; omega
    · obtain ⟨Tz, vz, hvz⟩ := t.it.val_iface
      have hlast := HLAST.out
      have hcell := hownr.cellAt (ns.length - 1) (by have := hownr.1; omega)
      rw [HX.out (ns.length - 1) t.it (by omega) hlast, hvz] at hcell
      have HV := hide hvz
      obtain ⟨m, hm⟩ : ∃ m : Nat, ns.length - 1 = m := ⟨_, rfl⟩
      rw [hm] at hcell
      have hsub : (ns.length : Int) - 1 = (m : Int) := by omega
      have hml : (m : Int) < ns.length := by omega
      have hwm : IntKind.i64.wrap (m : Int) = (m : Int) := by rw [IntKind.wrap_i64]; omega
      clear hm hlast HX hvz HLAST hownr
      go_wp2_with fail
      go_ret
      exact ⟨congrArg Ending.returned HV.out.symm, hbel⟩
end Go.Proofs.YtcagcfhnbphggaaGreatDoor
