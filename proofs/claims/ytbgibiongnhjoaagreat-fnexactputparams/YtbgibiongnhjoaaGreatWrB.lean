/- The program's trees of levels as values, and what the making of them answers: succAround, levelTreeOf. -/
import Derived.Test.YtbgibiongnhjoaaGreatTQ
import Derived.Test.YtbgibiongnhjoaaGreatImpl
import Derived.BigRegion
import Derived.Deep.RegionWith
import Derived.Deep.RegionHeld3
import Derived.Test.YtbgibiongnhjoaaGreatMkC
import Derived.Test.YtbgibiongnhjoaaGreatTeB
namespace Go.Proofs.YtbgibiongnhjoaaGreat
open Go.ChangeShapes Go.WideShapes Go.ChangeAt Go.RowKit


def It.val : It → Value
  | .zero => .iface 249 (.agg #[])
  | .succ n x => .iface 242 (.agg #[.int .i64 n, x.val])
  | .max a b => .iface 245 (.agg #[a.val, b.val])
  | .imax a b => .iface 246 (.agg #[a.val, b.val])
  | .param s => .iface 221 (.agg #[.string s])
theorem It.val_iface : ∀ x : It, ∃ T v, x.val = .iface T v
  | .zero => ⟨_, _, rfl⟩
  | .succ _ _ => ⟨_, _, rfl⟩
  | .max _ _ => ⟨_, _, rfl⟩
  | .imax _ _ => ⟨_, _, rfl⟩
  | .param _ => ⟨_, _, rfl⟩

theorem Tryz.as152_144 (v : Value) (w : World) : (Instr.typeAssert (.iface 249 v) 217 242 true).run Tryz.prog w = .ok (.tuple #[.agg #[.int .i64 0, .nilIface], .bool false]) w := by kernel_rfl
theorem Tryz.as146_144 (v : Value) (w : World) : (Instr.typeAssert (.iface 245 v) 217 242 true).run Tryz.prog w = .ok (.tuple #[.agg #[.int .i64 0, .nilIface], .bool false]) w := by kernel_rfl
theorem Tryz.as147_144 (v : Value) (w : World) : (Instr.typeAssert (.iface 246 v) 217 242 true).run Tryz.prog w = .ok (.tuple #[.agg #[.int .i64 0, .nilIface], .bool false]) w := by kernel_rfl
theorem Tryz.as149_144 (v : Value) (w : World) : (Instr.typeAssert (.iface 221 v) 217 242 true).run Tryz.prog w = .ok (.tuple #[.agg #[.int .i64 0, .nilIface], .bool false]) w := by kernel_rfl
theorem Tryz.as144_144 (v : Value) (w : World) : (Instr.typeAssert (.iface 242 v) 217 242 true).run Tryz.prog w = .ok (.tuple #[v, .bool true]) w := by kernel_rfl

set_option maxHeartbeats 1000000 in
theorem succAround_any (x : It) (w : World) (hc : x.cnt ≤ 1000) : Calls Tryz.prog 196 #[x.val, .int .i64 1] w fun e w' => e = .returned (sAround x).val ∧ Below w.heap.size w w' := by
  cases x with
  | zero =>
    have a1 := Tryz.as152_144
    simp only [It.val, sAround]
    go_enter Tryz.func196, Tryz.ntmps196
    go_wp2_with fail
    go_ret
    exact ⟨rfl, bel_alloc (Below.refl _ _) _⟩
  | succ n y =>
    have a1 := Tryz.as144_144
    obtain ⟨T, v, hv⟩ := y.val_iface
    simp only [It.val, sAround, hv]
    simp only [It.cnt] at hc
    have hn : n ≤ 1000 := by omega
    have HE : Hid (Ending.returned (.iface 242 (.agg #[.int .i64 ((n : Int) + 1), .iface T v])) = .returned (.iface 242 (.agg #[.int .i64 ((n + 1 : Nat) : Int), .iface T v]))) := by show _ = _; simp
    clear hc hv
    go_enter Tryz.func196, Tryz.ntmps196
    go_wp2_with fail
    go_ret
    exact ⟨HE.out, bel_alloc (Below.refl _ _) _⟩
  | max a b =>
    have a1 := Tryz.as146_144
    obtain ⟨Ta, va, ha⟩ := a.val_iface
    obtain ⟨Tb, vb, hb⟩ := b.val_iface
    simp only [It.val, sAround, ha, hb]
    clear ha hb hc
    go_enter Tryz.func196, Tryz.ntmps196
    go_wp2_with fail
    go_ret
    exact ⟨rfl, bel_alloc (Below.refl _ _) _⟩
  | imax a b =>
    have a1 := Tryz.as147_144
    obtain ⟨Ta, va, ha⟩ := a.val_iface
    obtain ⟨Tb, vb, hb⟩ := b.val_iface
    simp only [It.val, sAround, ha, hb]
    clear ha hb hc
    go_enter Tryz.func196, Tryz.ntmps196
    go_wp2_with fail
    go_ret
    exact ⟨rfl, bel_alloc (Below.refl _ _) _⟩
  | param s =>
    have a1 := Tryz.as149_144
    simp only [It.val, sAround]
    go_enter Tryz.func196, Tryz.ntmps196
    go_wp2_with fail
    go_ret
    exact ⟨rfl, bel_alloc (Below.refl _ _) _⟩

theorem Tryz.info217 : (Tryz.prog.info? 217).map (fun i => (i.zero, i.size, i.bytes)) = some (some .nilIface, 1, 16) := by kernel_rfl

theorem flat_cnt {ns : List Nd} {t : Tr} (h : ns = t.flat 0) : ns.length = t.cnt := by rw [h, Tr.flat_len]
theorem ys_put {ys : List Value} {its : List It} {k : Nat} (x : It) (hx : its[k]? = some x) (hl : k < ys.length) (h : ∀ j a, j < k → its[j]? = some a → ys[j]? = some a.val) : ∀ j a, j < k + 1 → its[j]? = some a → (ys.set k x.val)[j]? = some a.val := by
  intro j a hj ha
  by_cases e : j = k
  · subst e
    rw [hx] at ha
    cases ha
    rw [List.getElem?_set_self hl]
  · rw [List.getElem?_set_ne (by omega)]; exact h j a (by omega) ha
theorem its_cnt : ∀ (t : Tr), t.ok → ∀ x ∈ t.its, x.cnt ≤ t.cnt
  | .leaf k s, hok, x, hx => by
    simp only [Tr.its, List.mem_singleton] at hx
    rw [hx, it_cnt _ hok]; exact Nat.le_refl _
  | .one k s a, hok, x, hx => by
    have hok' := hok
    simp only [Tr.its, List.mem_append, List.mem_singleton] at hx
    rcases hx with hx | hx
    · have := its_cnt a hok.2.2 x hx
      simp only [Tr.cnt]; omega
    · rw [hx, it_cnt _ hok']; exact Nat.le_refl _
  | .two k s a b, hok, x, hx => by
    have hok' := hok
    simp only [Tr.its, List.mem_append, List.mem_singleton] at hx
    rcases hx with (hx | hx) | hx
    · have := its_cnt a hok.2.2.1 x hx
      simp only [Tr.cnt]; omega
    · have := its_cnt b hok.2.2.2 x hx
      simp only [Tr.cnt]; omega
    · rw [hx, it_cnt _ hok']; exact Nat.le_refl _

set_option maxRecDepth 10000 in
set_option maxHeartbeats 4000000 in
theorem levelTreeOf_any (v : Value) (ns : List Nd) (t : Tr) (w : World) (hns : NodesAt w v ns) (hflat : ns = t.flat 0) (hok : t.ok) (hl : ns.length ≤ 64) :
    Calls Tryz.prog 169 #[.agg #[v]] w fun e w' => e = .returned t.it.val ∧ Below w.heap.size w w' := by
  obtain ⟨i0, hi, hz0, hz1, hz2⟩ := info_parts Tryz.info217
  have hpos : 0 < ns.length := by have := Tr.cnt_pos t; rw [flat_cnt hflat]; omega
  have HLAST : Hid (t.its[ns.length - 1]? = some t.it) := by show _ = _; rw [flat_cnt hflat]; exact its_last t
  have HITS : Hid (t.its.length = ns.length) := by show _ = _; rw [flat_cnt hflat]; exact its_len t
  have HND : Hid (∀ i nd x, ns[i]? = some nd → t.its[i]? = some x → NodeIt 0 nd i t.its x) := by
    intro i nd x h1 h2
    rw [hflat] at h1
    exact its_node t 0 hok i nd x h1 h2
  have HCN : Hid (∀ x ∈ t.its, x.cnt ≤ 1000) := fun x hx => by
    have := its_cnt t hok x hx
    have := flat_cnt hflat
    omega
  obtain ⟨a, cap, rfl, hlc, hcm, hc⟩ := hns
  obtain ⟨b, off, rfl, hcc⟩ := hc hpos
  have HC := hide hcc
  unfold maxLen at hcm
  clear hc hcc hflat hok
  have hpos' : (0 : Int) < ns.length := by omega
  have HB0 : Hid ((w.alloc (.cells #[.slice (some ⟨b, off, none⟩) ns.length cap] 111)).cell? ⟨w.heap.size, 0, none⟩ = some (.slice (some ⟨b, off, none⟩) ns.length cap)) := by show _ = _; simp [go_sem]
  go_enter Tryz.func169, Tryz.ntmps169
  go_wp2_with (at_make; refine wpList_make_full _ rfl _ _ 247 rfl w.heap.size 217 i0 .nilIface 1 Tryz.underlying247 hi hz0 hz1 .i64 .i64 _ _ ns.length rfl rfl rfl rfl (by rw [hz2]; omega) (by unfold maxLen; omega) (by simp) ?_; intro w1 hown hgrow; have hbox := hgrow.cell HB0.out (by simp))
  have hbel1 : Below w.heap.size w w1 := (bel_alloc (Below.refl _ _) _).grown hgrow (by simp) (fun k hk => by cases hk)
  have hsz1 : w.heap.size + 1 < w1.heap.size := by have := (hown.lt _ rfl).2; simpa using this
  rw [World.size_alloc] at hown
  clear hgrow
  go_loopw [13] (fun i wr => ∃ (k : Nat) (ys : List Value), k ≤ ns.length ∧ i = .int .i64 k ∧ wr.ownsRow w.heap.size 217 1 (.slice (some ⟨w.heap.size + 1, 0, none⟩) ns.length ns.length) ns.length ys ∧ Hid (∀ j a, j < k → t.its[j]? = some a → ys[j]? = some a.val) ∧ w.heap.size + 1 < wr.heap.size ∧ Below w.heap.size w wr) (fun i _ => ns.length - (intOf i).toNat)
  case atStart => exact ⟨0, _, by omega, rfl, hown, fun j _ h => by omega, hsz1, hbel1⟩
  case round =>
    obtain ⟨k, ys, hk, rfl, hownr, HX, hsz, hbel⟩ := hrel
    clear hown hbel1 hsz1 hbox HB0
    by_cases hlt : k < ns.length
    · have hlt' : (k : Int) < ns.length := by omega
      obtain ⟨x, hx⟩ : ∃ x, t.its[k]? = some x := ⟨t.its[k]'(by rw [HITS.out]; omega), by rw [List.getElem?_eq_getElem]⟩
      have hni := HND.out k ns[k] x (by rw [List.getElem?_eq_getElem hlt]) hx
      obtain ⟨c1, c2, kv, c3, hkv⟩ := (HC.out k hlt).keep hbel
      have hyl := hownr.1
      have HP := hide (ys_put x hx (by omega) HX.out)
      have hst := (hownr.stored k x.val).1
      have HST := hide (hst)
      have hfz := hownr.frozenAt k
      have hce := hownr.cellAt k (by omega)
      rw [List.getElem?_eq_getElem (by omega)] at hce
      have HROW := hide hownr
      have HGET : Hid (∀ (q : Nat) (a : It), q < k → t.its[q]? = some a → wr.cell? ⟨w.heap.size + 1, q, none⟩ = some a.val) := fun q a hq ha => by
        rw [HROW.out.cellAt q (by omega)]; exact HX.out q a hq ha
      have HCX : Hid (∀ (q : Nat) (a : It), t.its[q]? = some a → a.cnt ≤ 1000) := fun q a ha => HCN.out a (List.mem_of_getElem? ha)
      have hlb := lt_cell c1
      clear hownr hst
      generalize ns[k] = nd at *
      obtain ⟨nk, nss, nkids⟩ := nd
      rcases hni with ⟨h1, h2⟩ | ⟨h1, h2⟩ | ⟨h1, q, a, h3, h4, h5, h6⟩ | ⟨h1, q, r, a, b', h3, h4, h5, h6, h7, h8⟩ | ⟨h1, q, r, a, b', h3, h4, h5, h6, h7, h8⟩
      · simp only at h1 c1 c2
        subst h1 h2
        obtain ⟨ka, kc, rfl, _, _, _⟩ := hkv
        go_wp2_with fail
        go_roundw
        case rel => exact ⟨k + 1, _, by omega, by go_num, HST.out.alloc _, HP, by show _ < (World.alloc _ _).heap.size; rw [World.size_alloc, size_set]; omega, bel_alloc (hbel.setCell (p := ⟨_, _, _⟩) (by show w.heap.size ≤ w.heap.size + 1; omega) _) _⟩
        case measure => simp [intOf]; omega
      · simp only at h1 c1 c2
        subst h1 h2
        obtain ⟨ka, kc, rfl, _, _, _⟩ := hkv
        go_wp2_with fail
        go_roundw
        case rel => exact ⟨k + 1, _, by omega, by go_num, HST.out.alloc _, HP, by show _ < (World.alloc _ _).heap.size; rw [World.size_alloc, size_set]; omega, bel_alloc (hbel.setCell (p := ⟨_, _, _⟩) (by show w.heap.size ≤ w.heap.size + 1; omega) _) _⟩
        case measure => simp [intOf]; omega
      · simp only at h1 h3 c1 c2 hkv
        subst h1 h3 h6
        obtain ⟨ka, kc, rfl, hk1, hk2, hkc⟩ := hkv
        obtain ⟨kb, ko, rfl, hkcc⟩ := hkc (by simp)
        have e0 := hkcc 0 (by simp)
        simp only [List.getElem_cons_zero, Nat.zero_add, Nat.add_zero] at e0
        have g0 := HGET.out q a h4 h5
        obtain ⟨Ta, va, hva⟩ := a.val_iface
        have HSA := hide (succAround_any a)
        have HCA := hide (HCX.out q a h5)
        obtain ⟨Ts, vs, hvs⟩ := (sAround a).val_iface
        rw [hvs] at HP HST HSA
        rw [hva] at g0 HSA
        have hq' : (q : Int) < ns.length := by omega
        have hlk := lt_cell e0
        simp only [List.length_singleton] at hk1
        clear hkcc hkc HGET HX hx h5 hva hvs
        go_wp2_with fail
        refine (HSA.out _ HCA.out).mono ?_
        rintro e w2 ⟨rfl, hb2⟩
        have hbw2 : Below wr.heap.size wr w2 := bel_trans (bel_alloc (Below.refl _ _) _) hb2
        have hbel2 := bel_trans hbel hbw2
        have hrow2 := row_keep hbw2 HROW.out
        have hst2 := (hrow2.stored k (.iface Ts vs)).1
        have hfz2 := hrow2.frozenAt k
        have hce2 := hrow2.cellAt k (by omega)
        rw [List.getElem?_eq_getElem (by omega)] at hce2
        have hsz2 : w.heap.size + 1 < w2.heap.size := by have := hbw2.size; omega
        clear hb2 hrow2 HST hbw2
        go_wp2_with fail
        go_roundw
        case rel => exact ⟨k + 1, _, by omega, by go_num, hst2, HP, by rw [size_set]; omega, hbel2.setCell (p := ⟨_, _, _⟩) (by show w.heap.size ≤ w.heap.size + 1; omega) _⟩
        case measure => simp [intOf]; omega
      · simp only at h1 h3 c1 c2 hkv
        subst h1 h3 h8
        obtain ⟨ka, kc, rfl, hk1, hk2, hkc⟩ := hkv
        obtain ⟨kb, ko, rfl, hkcc⟩ := hkc (by simp)
        have e0 := hkcc 0 (by simp)
        have e1 := hkcc 1 (by simp)
        simp only [List.getElem_cons_zero, List.getElem_cons_succ, Nat.zero_add, Nat.add_zero] at e0 e1
        have g0 := HGET.out q a h4 h6
        have g1 := HGET.out r b' h5 h7
        obtain ⟨Ta, va, hva⟩ := a.val_iface
        obtain ⟨Tb, vb, hvb⟩ := b'.val_iface
        rw [hva] at g0
        rw [hvb] at g1
        simp only [It.val, hva, hvb] at HP HST
        have hq' : (q : Int) < ns.length := by omega
        have hr' : (r : Int) < ns.length := by omega
        have hlk := lt_cell e0
        simp only [List.length_cons, List.length_nil] at hk1
        clear hkcc hkc HGET HX hx h6 h7 hva hvb
        go_wp2_with fail
        go_region
        go_wp2_with fail
        go_roundw
        case rel => exact ⟨k + 1, _, by omega, by go_num, (HST.out.alloc _).drew, HP, by show _ < (World.alloc _ _).heap.size; rw [World.size_alloc, size_set]; omega, (bel_alloc (hbel.setCell (p := ⟨_, _, _⟩) (by show w.heap.size ≤ w.heap.size + 1; omega) _) _).drew⟩
        case measure => simp [intOf]; omega
      · simp only at h1 h3 c1 c2 hkv
        subst h1 h3 h8
        obtain ⟨ka, kc, rfl, hk1, hk2, hkc⟩ := hkv
        obtain ⟨kb, ko, rfl, hkcc⟩ := hkc (by simp)
        have e0 := hkcc 0 (by simp)
        have e1 := hkcc 1 (by simp)
        simp only [List.getElem_cons_zero, List.getElem_cons_succ, Nat.zero_add, Nat.add_zero] at e0 e1
        have g0 := HGET.out q a h4 h6
        have g1 := HGET.out r b' h5 h7
        obtain ⟨Ta, va, hva⟩ := a.val_iface
        obtain ⟨Tb, vb, hvb⟩ := b'.val_iface
        rw [hva] at g0
        rw [hvb] at g1
        simp only [It.val, hva, hvb] at HP HST
        have hq' : (q : Int) < ns.length := by omega
        have hr' : (r : Int) < ns.length := by omega
        have hlk := lt_cell e0
        simp only [List.length_cons, List.length_nil] at hk1
        clear hkcc hkc HGET HX hx h6 h7 hva hvb
        go_wp2_with fail
        go_region
        go_wp2_with fail
        go_roundw
        case rel => exact ⟨k + 1, _, by omega, by go_num, (HST.out.alloc _).drew, HP, by show _ < (World.alloc _ _).heap.size; rw [World.size_alloc, size_set]; omega, (bel_alloc (hbel.setCell (p := ⟨_, _, _⟩) (by show w.heap.size ≤ w.heap.size + 1; omega) _) _).drew⟩
        case measure => simp [intOf]; omega
    · obtain ⟨Tz, vz, hvz⟩ := t.it.val_iface
      have hlast := HLAST.out
      have hcell := hownr.cellAt (ns.length - 1) (by have := hownr.1; omega)
      rw [HX.out (ns.length - 1) t.it (by omega) hlast, hvz] at hcell
      have HV := hide hvz
      obtain ⟨m, hm⟩ : ∃ m : Nat, ns.length - 1 = m := ⟨_, rfl⟩
      rw [hm] at hcell
      have hsub : (ns.length : Int) - 1 = (m : Int) := by omega
      have hml : (m : Int) < ns.length := by omega
      have hwm : IntKind.i64.wrap (m : Int) = (m : Int) := by rw [IntKind.wrap_i64]; omega
      clear hm hlast HX hvz HLAST hownr
      go_wp2_with fail
      go_ret
      exact ⟨congrArg Ending.returned HV.out.symm, hbel⟩
end Go.Proofs.YtbgibiongnhjoaaGreat

/- The methods of the program's trees of levels as they are called through the interface, and what size answers. -/
namespace Go.Proofs.YtbgibiongnhjoaaGreat
open Go.ChangeShapes Go.WideShapes Go.ChangeAt Go.RowKit


def It.tid : It → Nat
  | .zero => 249
  | .succ _ _ => 242
  | .max _ _ => 245
  | .imax _ _ => 246
  | .param _ => 221
def It.pay : It → Value
  | .zero => .agg #[]
  | .succ n x => .agg #[.int .i64 n, x.val]
  | .max a b => .agg #[a.val, b.val]
  | .imax a b => .agg #[a.val, b.val]
  | .param s => .agg #[.string s]
theorem It.val_pay (x : It) : x.val = .iface x.tid x.pay := by cases x <;> rfl
def It.szf : It → Nat
  | .zero => 246
  | .succ _ _ => 239
  | .max _ _ => 241
  | .imax _ _ => 244
  | .param _ => 237
def It.wrf : It → Nat
  | .zero => 247
  | .succ _ _ => 240
  | .max _ _ => 242
  | .imax _ _ => 245
  | .param _ => 238
theorem msz0 (v : Value) (W : World) : (method 381 249 v "loop.example/g00005/impl.size").run Tryz.prog W = .ok (246, v) W := by kernel_rfl
theorem msz1 (v : Value) (W : World) : (method 381 242 v "loop.example/g00005/impl.size").run Tryz.prog W = .ok (239, v) W := by kernel_rfl
theorem msz2 (v : Value) (W : World) : (method 381 245 v "loop.example/g00005/impl.size").run Tryz.prog W = .ok (241, v) W := by kernel_rfl
theorem msz3 (v : Value) (W : World) : (method 381 246 v "loop.example/g00005/impl.size").run Tryz.prog W = .ok (244, v) W := by kernel_rfl
theorem msz4 (v : Value) (W : World) : (method 381 221 v "loop.example/g00005/impl.size").run Tryz.prog W = .ok (237, v) W := by kernel_rfl
theorem esz0 (args : Array Value) (W : World) : (callFunc 246 args).run Tryz.prog W = .ok (.enter 246 args) W := by kernel_rfl
theorem esz1 (args : Array Value) (W : World) : (callFunc 239 args).run Tryz.prog W = .ok (.enter 239 args) W := by kernel_rfl
theorem esz2 (args : Array Value) (W : World) : (callFunc 241 args).run Tryz.prog W = .ok (.enter 241 args) W := by kernel_rfl
theorem esz3 (args : Array Value) (W : World) : (callFunc 244 args).run Tryz.prog W = .ok (.enter 244 args) W := by kernel_rfl
theorem esz4 (args : Array Value) (W : World) : (callFunc 237 args).run Tryz.prog W = .ok (.enter 237 args) W := by kernel_rfl
theorem It.size_m (x : It) (W : World) : (method 381 x.tid x.pay "loop.example/g00005/impl.size").run Tryz.prog W = .ok (x.szf, x.pay) W := by
  cases x
  · exact msz0 _ W
  · exact msz1 _ W
  · exact msz2 _ W
  · exact msz3 _ W
  · exact msz4 _ W
theorem It.size_e (x : It) (args : Array Value) (W : World) : (callFunc x.szf args).run Tryz.prog W = .ok (.enter x.szf args) W := by
  cases x
  · exact esz0 _ W
  · exact esz1 _ W
  · exact esz2 _ W
  · exact esz3 _ W
  · exact esz4 _ W
def SizeAt (x : It) : Prop := ∀ w, Calls Tryz.prog x.szf #[x.pay] w fun e w' => e = .returned (.int .i64 x.cnt) ∧ Below w.heap.size w w'

set_option maxHeartbeats 1000000 in
theorem size_zero : SizeAt .zero := by
  intro w
  simp only [It.szf, It.pay, It.cnt]
  go_enter Tryz.func246, Tryz.ntmps246
  go_wp2_with fail
  go_ret
  exact ⟨rfl, bel_alloc (Below.refl _ _) _⟩
set_option maxHeartbeats 1000000 in
theorem size_param (s : ByteArray) : SizeAt (.param s) := by
  intro w
  simp only [It.szf, It.pay, It.cnt]
  go_enter Tryz.func237, Tryz.ntmps237
  go_wp2_with fail
  go_ret
  exact ⟨rfl, bel_alloc (Below.refl _ _) _⟩
set_option maxHeartbeats 1000000 in
theorem size_succ (n : Nat) (x : It) (hc : (It.succ n x).cnt ≤ 1000000) (ih : SizeAt x) : SizeAt (.succ n x) := by
  intro w
  have hm := It.size_m x
  have he := It.size_e x
  simp only [It.cnt] at hc
  have IH := hide ih
  unfold SizeAt at IH
  simp only [It.szf, It.pay, It.cnt]
  rw [It.val_pay x]
  generalize x.szf = f at *
  generalize x.tid = T at *
  generalize x.pay = v at *
  generalize x.cnt = y at *
  have hwr : IntKind.i64.wrap ((n : Int) + y) = (n : Int) + y := by rw [IntKind.wrap_i64]; omega
  have HE : Hid (Ending.returned (.int .i64 ((n : Int) + y)) = .returned (.int .i64 ((n + y : Nat) : Int))) := by show _ = _; simp
  clear ih
  go_enter Tryz.func239, Tryz.ntmps239
  go_wp2_with fail
  go_region_held3 (fun w' => w'.cell? ⟨w.heap.size, 0, none⟩ = some (.int .i64 n) ∧ w'.cell? ⟨w.heap.size, 1, none⟩ = some (.iface T v))
    (first
      | go_keep
      | (go_split_ands; exact ⟨keep_cell hb1 (by assumption), keep_cell hb1 (by assumption)⟩)
      | fail)
    (first
      | (refine (IH.out _).mono ?_; rintro e w1 ⟨rfl, hb1⟩)
      | fail)
  all_goals
    go_wp2_with fail
    go_ret
    exact ⟨HE.out, (bel_alloc (Below.refl _ _) _).drew.trans (hb1.mono (by simp))⟩
set_option maxHeartbeats 2000000 in
theorem size_max (a b : It) (hc : (It.max a b).cnt ≤ 1000000) (iha : SizeAt a) (ihb : SizeAt b) : SizeAt (.max a b) := by
  intro w
  have hma := It.size_m a
  have hea := It.size_e a
  have hmb := It.size_m b
  have heb := It.size_e b
  simp only [It.cnt] at hc
  have IHA := hide iha
  have IHB := hide ihb
  unfold SizeAt at IHA IHB
  simp only [It.szf, It.pay, It.cnt]
  rw [It.val_pay a, It.val_pay b]
  generalize a.szf = fa at *
  generalize a.tid = Ta at *
  generalize a.pay = va at *
  generalize a.cnt = x at *
  generalize b.szf = fb at *
  generalize b.tid = Tb at *
  generalize b.pay = vb at *
  generalize b.cnt = y at *
  have hwr : IntKind.i64.wrap ((x : Int) + y) = (x : Int) + y := by rw [IntKind.wrap_i64]; omega
  have hwr2 : IntKind.i64.wrap ((x : Int) + y + 1) = (x : Int) + y + 1 := by rw [IntKind.wrap_i64]; omega
  have HE : Hid (Ending.returned (.int .i64 ((x : Int) + y + 1)) = .returned (.int .i64 ((x + y + 1 : Nat) : Int))) := by show _ = _; simp
  clear iha ihb
  go_enter Tryz.func241, Tryz.ntmps241
  go_wp2_with fail
  go_region_held3 (fun w' => w'.cell? ⟨w.heap.size, 0, none⟩ = some (.iface Ta va) ∧ w'.cell? ⟨w.heap.size, 1, none⟩ = some (.iface Tb vb))
    (first
      | go_keep
      | (go_split_ands; exact ⟨keep_cell hb2 (by assumption), keep_cell hb2 (by assumption)⟩)
      | (go_split_ands; exact ⟨keep_cell hb1 (by assumption), keep_cell hb1 (by assumption)⟩)
      | fail)
    (first
      | (refine (IHA.out _).mono ?_; rintro e w1 ⟨rfl, hb1⟩)
      | (refine (IHB.out _).mono ?_; rintro e w2 ⟨rfl, hb2⟩)
      | fail)
  all_goals
    go_wp2_with fail
    go_ret
    exact ⟨HE.out, bel_trans ((bel_alloc (Below.refl _ _) _).drew.trans (hb1.mono (by simp))) hb2⟩
set_option maxHeartbeats 2000000 in
theorem size_imax (a b : It) (hc : (It.imax a b).cnt ≤ 1000000) (iha : SizeAt a) (ihb : SizeAt b) : SizeAt (.imax a b) := by
  intro w
  have hma := It.size_m a
  have hea := It.size_e a
  have hmb := It.size_m b
  have heb := It.size_e b
  simp only [It.cnt] at hc
  have IHA := hide iha
  have IHB := hide ihb
  unfold SizeAt at IHA IHB
  simp only [It.szf, It.pay, It.cnt]
  rw [It.val_pay a, It.val_pay b]
  generalize a.szf = fa at *
  generalize a.tid = Ta at *
  generalize a.pay = va at *
  generalize a.cnt = x at *
  generalize b.szf = fb at *
  generalize b.tid = Tb at *
  generalize b.pay = vb at *
  generalize b.cnt = y at *
  have hwr : IntKind.i64.wrap ((x : Int) + y) = (x : Int) + y := by rw [IntKind.wrap_i64]; omega
  have hwr2 : IntKind.i64.wrap ((x : Int) + y + 1) = (x : Int) + y + 1 := by rw [IntKind.wrap_i64]; omega
  have HE : Hid (Ending.returned (.int .i64 ((x : Int) + y + 1)) = .returned (.int .i64 ((x + y + 1 : Nat) : Int))) := by show _ = _; simp
  clear iha ihb
  go_enter Tryz.func244, Tryz.ntmps244
  go_wp2_with fail
  go_region_held3 (fun w' => w'.cell? ⟨w.heap.size, 0, none⟩ = some (.iface Ta va) ∧ w'.cell? ⟨w.heap.size, 1, none⟩ = some (.iface Tb vb))
    (first
      | go_keep
      | (go_split_ands; exact ⟨keep_cell hb2 (by assumption), keep_cell hb2 (by assumption)⟩)
      | (go_split_ands; exact ⟨keep_cell hb1 (by assumption), keep_cell hb1 (by assumption)⟩)
      | fail)
    (first
      | (refine (IHA.out _).mono ?_; rintro e w1 ⟨rfl, hb1⟩)
      | (refine (IHB.out _).mono ?_; rintro e w2 ⟨rfl, hb2⟩)
      | fail)
  all_goals
    go_wp2_with fail
    go_ret
    exact ⟨HE.out, bel_trans ((bel_alloc (Below.refl _ _) _).drew.trans (hb1.mono (by simp))) hb2⟩
theorem size_all : ∀ x : It, x.cnt ≤ 1000000 → SizeAt x
  | .zero, _ => size_zero
  | .succ n x, h => size_succ n x h (size_all x (by simp only [It.cnt] at h; omega))
  | .max a b, h => size_max a b h (size_all a (by simp only [It.cnt] at h; omega)) (size_all b (by simp only [It.cnt] at h; omega))
  | .imax a b, h => size_imax a b h (size_all a (by simp only [It.cnt] at h; omega)) (size_all b (by simp only [It.cnt] at h; omega))
  | .param s, _ => size_param s
end Go.Proofs.YtbgibiongnhjoaaGreat

/- What write answers at the leaves of the program's trees of levels. -/
namespace Go.Proofs.YtbgibiongnhjoaaGreat
open Go.ChangeShapes Go.WideShapes Go.ChangeAt Go.RowKit


theorem mwr0 (v : Value) (W : World) : (method 381 249 v "loop.example/g00005/impl.write").run Tryz.prog W = .ok (247, v) W := by kernel_rfl
theorem mwr1 (v : Value) (W : World) : (method 381 242 v "loop.example/g00005/impl.write").run Tryz.prog W = .ok (240, v) W := by kernel_rfl
theorem mwr2 (v : Value) (W : World) : (method 381 245 v "loop.example/g00005/impl.write").run Tryz.prog W = .ok (242, v) W := by kernel_rfl
theorem mwr3 (v : Value) (W : World) : (method 381 246 v "loop.example/g00005/impl.write").run Tryz.prog W = .ok (245, v) W := by kernel_rfl
theorem mwr4 (v : Value) (W : World) : (method 381 221 v "loop.example/g00005/impl.write").run Tryz.prog W = .ok (238, v) W := by kernel_rfl
theorem ewr0 (args : Array Value) (W : World) : (callFunc 247 args).run Tryz.prog W = .ok (.enter 247 args) W := by kernel_rfl
theorem ewr1 (args : Array Value) (W : World) : (callFunc 240 args).run Tryz.prog W = .ok (.enter 240 args) W := by kernel_rfl
theorem ewr2 (args : Array Value) (W : World) : (callFunc 242 args).run Tryz.prog W = .ok (.enter 242 args) W := by kernel_rfl
theorem ewr3 (args : Array Value) (W : World) : (callFunc 245 args).run Tryz.prog W = .ok (.enter 245 args) W := by kernel_rfl
theorem ewr4 (args : Array Value) (W : World) : (callFunc 238 args).run Tryz.prog W = .ok (.enter 238 args) W := by kernel_rfl
theorem It.write_m (x : It) (W : World) : (method 381 x.tid x.pay "loop.example/g00005/impl.write").run Tryz.prog W = .ok (x.wrf, x.pay) W := by
  cases x
  · exact mwr0 _ W
  · exact mwr1 _ W
  · exact mwr2 _ W
  · exact mwr3 _ W
  · exact mwr4 _ W
theorem It.write_e (x : It) (args : Array Value) (W : World) : (callFunc x.wrf args).run Tryz.prog W = .ok (.enter x.wrf args) W := by
  cases x
  · exact ewr0 _ W
  · exact ewr1 _ W
  · exact ewr2 _ W
  · exact ewr3 _ W
  · exact ewr4 _ W
/-- What write is asked and answers. -/
def WriteAt (x : It) : Prop := ∀ (w : World) (ao : Option Addr) (n cap : Nat) (ns : List Nd) (base : Nat), ns.length = n → NdW base w (.slice ao n cap) ns → base ≤ w.heap.size → n + x.cnt ≤ 1000 →
  Calls Tryz.prog x.wrf #[x.pay, .slice ao n cap] w fun e w' => ∃ g' cap', e = .returned (.slice (some ⟨g', 0, none⟩) (n + x.cnt) cap') ∧ NdW base w' (.slice (some ⟨g', 0, none⟩) (n + x.cnt) cap') (ns ++ x.flat n) ∧ w.grownBy w' (Value.slice ao n cap).ownBlock ∧ ((Value.slice ao n cap).ownBlock = some g' ∨ w.heap.size ≤ g')

set_option maxRecDepth 20000 in
set_option maxHeartbeats 2000000 in
theorem write_zero : WriteAt .zero := by
  intro w ao n cap ns base hn hW hb hl
  obtain ⟨i87, hi87, hz87, hs87, hb87⟩ := info_parts Tryz.info174
  obtain ⟨xs, ho, hx, hap⟩ := hW
  subst hn
  have HO := hide ho
  have HX := hide hx
  have HAP := hide hap
  simp only [It.pay, It.cnt, It.wrf, It.flat] at hl ⊢
  have hcn : ns.length ≤ 1000 := by omega
  clear ho hx hap hl
  go_enter Tryz.func247, Tryz.ntmps247
  go_wp2_with (first
    | (at_builtin; refine wpList_append_lies _ rfl _ _ 109 rfl base 174 i87 (.agg #[.int .i64 0, .string ⟨#[]⟩, .slice none 0 0]) 3 48 Tryz.underlying109 hi87 hz87 hs87 hb87 rfl (by omega) (.slice ao ns.length cap) ns.length xs rfl ((HO.out.alloc _).alloc _) ⟨w.heap.size + 1, 0, none⟩ 1 1 [.int .i64 1, .string ⟨#[]⟩, .slice none 0 0] rfl rfl ?c1 ?c2 (by omega) ?c3 ?c4 ?c5 (w.heap.size + 1 + 1) (by simp) ?_)
    | fail)
  case c1 => exact World.news_of_block (cs := #[.int .i64 1, .string ⟨#[]⟩, .slice none 0 0]) (t := 174) (fr := (0, 0)) (alloc2_block w _ _ 1)
  case c2 => intro u hu; simp at hu; rcases hu with rfl | rfl | rfl <;> rfl
  case c3 => unfold maxLen; omega
  case c4 => omega
  case c5 => simp; omega
  intro g4 cap4 w4 hown4 hgrow4 hat4 hlt4
  have hend := NdW.snoc (nd := ⟨1, ⟨#[]⟩, []⟩) (bel_alloc (bel_alloc (Below.refl w.heap.size w) _) _) HO.out HX.out HAP.out (World.ownsRow_nil _ _ _ _) (fun b hb => by simp [Value.ownBlock] at hb) hgrow4 hown4
  have HE := hide hend
  have HAT : Hid ((Value.slice ao ns.length cap).ownBlock = some g4 ∨ w.heap.size ≤ g4) := by
    rcases hat4 with h | h
    · exact .inl h
    · exact .inr (by omega)
  clear hend hown4 hgrow4 hat4 hlt4
  go_wp2_with fail
  go_ret
  exact ⟨g4, cap4, rfl, HE.out.1, HE.out.2, HAT.out⟩

set_option maxRecDepth 20000 in
set_option maxHeartbeats 2000000 in
theorem write_param (s : ByteArray) : WriteAt (.param s) := by
  intro w ao n cap ns base hn hW hb hl
  obtain ⟨i87, hi87, hz87, hs87, hb87⟩ := info_parts Tryz.info174
  obtain ⟨xs, ho, hx, hap⟩ := hW
  subst hn
  have HO := hide ho
  have HX := hide hx
  have HAP := hide hap
  simp only [It.pay, It.cnt, It.wrf, It.flat] at hl ⊢
  have hcn : ns.length ≤ 1000 := by omega
  clear ho hx hap hl
  go_enter Tryz.func238, Tryz.ntmps238
  go_wp2_with (first
    | (at_builtin; refine wpList_append_lies _ rfl _ _ 109 rfl base 174 i87 (.agg #[.int .i64 0, .string ⟨#[]⟩, .slice none 0 0]) 3 48 Tryz.underlying109 hi87 hz87 hs87 hb87 rfl (by omega) (.slice ao ns.length cap) ns.length xs rfl ((HO.out.alloc _).alloc _) ⟨w.heap.size + 1, 0, none⟩ 1 1 [.int .i64 5, .string s, .slice none 0 0] rfl rfl ?c1 ?c2 (by omega) ?c3 ?c4 ?c5 (w.heap.size + 1 + 1) (by simp) ?_)
    | fail)
  case c1 => exact World.news_of_block (cs := #[.int .i64 5, .string s, .slice none 0 0]) (t := 174) (fr := (0, 0)) (alloc2_block w _ _ 1)
  case c2 => intro u hu; simp at hu; rcases hu with rfl | rfl | rfl <;> rfl
  case c3 => unfold maxLen; omega
  case c4 => omega
  case c5 => simp; omega
  intro g4 cap4 w4 hown4 hgrow4 hat4 hlt4
  have hend := NdW.snoc (nd := ⟨5, s, []⟩) (bel_alloc (bel_alloc (Below.refl w.heap.size w) _) _) HO.out HX.out HAP.out (World.ownsRow_nil _ _ _ _) (fun b hb => by simp [Value.ownBlock] at hb) hgrow4 hown4
  have HE := hide hend
  have HAT : Hid ((Value.slice ao ns.length cap).ownBlock = some g4 ∨ w.heap.size ≤ g4) := by
    rcases hat4 with h | h
    · exact .inl h
    · exact .inr (by omega)
  clear hend hown4 hgrow4 hat4 hlt4
  go_wp2_with fail
  go_ret
  exact ⟨g4, cap4, rfl, HE.out.1, HE.out.2, HAT.out⟩
end Go.Proofs.YtbgibiongnhjoaaGreat
