/- Which node of the specification's trees stands for which tree. No program is walked here. -/
import Derived.Test.YtjkkojefpecbfaaGreatTrD
import Derived.Test.YtjkkojefpecbfaaGreatTFTree
namespace Go.Proofs.YtjkkojefpecbfaaGreat

theorem all_mono {P R : Hd → Nat → Prop} (h : ∀ x c, P x c → R x c) : ∀ {T : Tt}, T.all P → T.all R
  | .t0 _, hp => h _ _ hp
  | .t1 _ _, hp => ⟨h _ _ hp.1, all_mono h hp.2⟩
  | .t2 _ _ _, hp => ⟨h _ _ hp.1, all_mono h hp.2.1, all_mono h hp.2.2⟩
  | .t3 _ _ _ _, hp => ⟨h _ _ hp.1, all_mono h hp.2.1, all_mono h hp.2.2.1, all_mono h hp.2.2.2⟩
theorem node_var (h : Hd) (c : Nat) (hp : nodeP h c) : varP h c := by
  obtain ⟨h1, h2⟩ := hp
  refine ⟨fun e => ?_, fun hc e => ?_⟩
  · have hn := num_of h2 e
    have hn : 0 ≤ h.n ∧ h.n ≤ 20000 := hn
    refine ⟨hn.2, ?_⟩
    obtain ⟨k, n, m, s, lv⟩ := h
    simp only at e hn
    subst e
    simp only [tfieldsB, Bool.and_eq_true] at h2
    obtain ⟨⟨⟨_, hm⟩, hs⟩, hl⟩ := h2
    have hm0 : m = 0 := by
      have h3 : 0 ≤ m ∧ m ≤ gM 1 := by
        simp only [modeB, Bool.and_eq_true] at hm
        exact ⟨of_decide_eq_true hm.1, of_decide_eq_true hm.2⟩
      have : gM 1 = 0 := by decide
      omega
    have hl0 : lv = [] := by
      have h3 : (lv.length : Int) ≤ mostL 1 := by
        simp only [tlevB, Bool.and_eq_true] at hl
        exact of_decide_eq_true hl.1.2
      have : mostL 1 = 0 := by decide
      exact List.eq_nil_of_length_eq_zero (by omega)
    have hs0 : s = ⟨#[]⟩ := by
      have h3 : s.toList = [] := by simpa [tnameB, Hd.td, bindsB] using hs
      rw [ByteArray.toList_eq] at h3
      obtain ⟨⟨x⟩⟩ := s
      simp at h3
      rw [h3]
    rw [hm0, hl0, hs0]
  · rw [e] at h1
    have : tkidsN 1 = 0 := by decide
    omega
theorem at_some {ts : List Td} {i : Nat} {t : Td} (h : ts[i]? = some t) : ∃ hi : i < ts.length, ts[i] = t := List.getElem?_eq_some_iff.1 h
theorem zi_at {ts : List Td} {x y : Nat} (hy : 1 ≤ y) : zI (Zt ts) (((x + y : Nat) : Int) - 1) = zI (Zt ts) ((x + y - 1 : Nat) : Int) := by
  congr 1
  omega
/-- What is kept of a node is what its tree's root keeps. -/
theorem zt_is {ts : List Td} (hk : KidsIn ts ts.length) : ∀ (T : Tt) (o : Nat), (∀ j, j < (T.flat o).length → ts[o + j]? = (T.flat o)[j]?) → zI (Zt ts) ((o + T.cnt - 1 : Nat) : Int) = T.z
  | .t0 h, o, hs => by
    obtain ⟨hi, e⟩ := at_some (hs 0 (by simp [Tt.flat]))
    have hz := zt_eq ts o hi (hk o hi hi)
    rw [show ts[o] = h.td [] from e] at hz
    exact hz
  | .t1 h a, o, hs => by
    simp only [Tt.flat] at hs
    have ha := zt_is hk a o (sub_left hs)
    have hl := sub_right hs 0 (by simp)
    rw [a.flat_len] at hl
    obtain ⟨hi, e⟩ := at_some hl
    have hz := zt_eq ts (o + a.cnt) hi (hk _ hi hi)
    rw [show ts[o + a.cnt] = h.td [((o + a.cnt : Nat) : Int) - 1] from e] at hz
    simp only [Hd.td, List.map_cons, List.map_nil] at hz
    rw [zi_at a.cnt_pos, ha] at hz
    exact hz
  | .t2 h a b, o, hs => by
    simp only [Tt.flat] at hs
    have hab := sub_left hs
    have ha := zt_is hk a o (sub_left hab)
    have hb := sub_right hab
    rw [a.flat_len] at hb
    have hb := zt_is hk b (o + a.cnt) hb
    have hl := sub_right hs 0 (by simp)
    rw [List.length_append, a.flat_len, b.flat_len, ← Nat.add_assoc] at hl
    obtain ⟨hi, e⟩ := at_some hl
    have hz := zt_eq ts (o + a.cnt + b.cnt) hi (hk _ hi hi)
    rw [show ts[o + a.cnt + b.cnt] = h.td [((o + a.cnt : Nat) : Int) - 1, ((o + a.cnt + b.cnt : Nat) : Int) - 1] from e] at hz
    simp only [Hd.td, List.map_cons, List.map_nil] at hz
    rw [zi_at a.cnt_pos, zi_at b.cnt_pos, ha, hb] at hz
    rw [show o + (Tt.t2 h a b).cnt - 1 = o + a.cnt + b.cnt by simp only [Tt.cnt]; omega]
    exact hz
  | .t3 h a b d, o, hs => by
    simp only [Tt.flat] at hs
    have habd := sub_left hs
    have hab := sub_left habd
    have ha := zt_is hk a o (sub_left hab)
    have hb := sub_right hab
    have hd := sub_right habd
    rw [a.flat_len] at hb
    rw [List.length_append, a.flat_len, b.flat_len, ← Nat.add_assoc] at hd
    have hb := zt_is hk b (o + a.cnt) hb
    have hd := zt_is hk d (o + a.cnt + b.cnt) hd
    have hl := sub_right hs 0 (by simp)
    rw [List.length_append, List.length_append, a.flat_len, b.flat_len, d.flat_len, ← Nat.add_assoc, ← Nat.add_assoc] at hl
    obtain ⟨hi, e⟩ := at_some hl
    have hz := zt_eq ts (o + a.cnt + b.cnt + d.cnt) hi (hk _ hi hi)
    rw [show ts[o + a.cnt + b.cnt + d.cnt] = h.td [((o + a.cnt : Nat) : Int) - 1, ((o + a.cnt + b.cnt : Nat) : Int) - 1, ((o + a.cnt + b.cnt + d.cnt : Nat) : Int) - 1] from e] at hz
    simp only [Hd.td, List.map_cons, List.map_nil] at hz
    rw [zi_at a.cnt_pos, zi_at b.cnt_pos, zi_at d.cnt_pos, ha, hb, hd] at hz
    rw [show o + (Tt.t3 h a b d).cnt - 1 = o + a.cnt + b.cnt + d.cnt by simp only [Tt.cnt]; omega]
    exact hz
/-- A node of the specification's stands for a tree. -/
def SpT (Q : Nat → Prop) (w : World) : Tt → Nat → Prop
  | .t0 h, p => FnAt Q w p (h.td []) [] (Tt.t0 h).z
  | .t1 h a, p => ∃ pa, SpT Q w a pa ∧ FnAt Q w p (h.td []) [pa] (Tt.t1 h a).z
  | .t2 h a b, p => ∃ pa pb, SpT Q w a pa ∧ SpT Q w b pb ∧ FnAt Q w p (h.td []) [pa, pb] (Tt.t2 h a b).z
  | .t3 h a b c, p => ∃ pa pb pc, SpT Q w a pa ∧ SpT Q w b pb ∧ SpT Q w c pc ∧ FnAt Q w p (h.td []) [pa, pb, pc] (Tt.t3 h a b c).z
theorem forest_at {Q : Nat → Prop} {w : World} {pt : Nat → Nat} {ts : List Td} (F : Forest Q w pt ts ts.length) {i : Nat} {t : Td} (h : ts[i]? = some t) : FnAt Q w (pt i) t (t.kids.map (fun c => pt c.toNat)) (zI (Zt ts) (i : Int)) := by
  obtain ⟨hi, e⟩ := at_some h
  have := F i hi hi
  rw [e] at this
  exact this
theorem fn_td {Q : Nat → Prop} {w : World} {p : Nat} {h : Hd} {ks : List Int} {kp : List Nat} {z : Zs} (hf : FnAt Q w p (h.td ks) kp z) : FnAt Q w p (h.td []) kp z := hf
theorem forest_is {Q : Nat → Prop} {w : World} {pt : Nat → Nat} {ts : List Td} (hk : KidsIn ts ts.length) (F : Forest Q w pt ts ts.length) : ∀ (T : Tt) (o : Nat), (∀ j, j < (T.flat o).length → ts[o + j]? = (T.flat o)[j]?) → SpT Q w T (pt (o + T.cnt - 1))
  | .t0 h, o, hs => by
    have hf := forest_at F (hs 0 (by simp [Tt.flat]))
    have hz := zt_is hk (.t0 h) o hs
    have hf : FnAt Q w (pt o) (h.td []) [] (zI (Zt ts) (o : Int)) := hf
    have hz : zI (Zt ts) (o : Int) = (Tt.t0 h).z := hz
    rw [hz] at hf
    exact hf
  | .t1 h a, o, hs => by
    have hz := zt_is hk (.t1 h a) o hs
    simp only [Tt.flat] at hs
    have hl := sub_right hs 0 (by simp)
    rw [a.flat_len] at hl
    have hf := fn_td (forest_at F hl)
    simp only [Hd.td, List.map_cons, List.map_nil] at hf
    rw [pt_at (pt := pt) a.cnt_pos] at hf
    rw [show o + (Tt.t1 h a).cnt - 1 = o + a.cnt by simp only [Tt.cnt]; omega] at hz ⊢
    refine ⟨_, forest_is hk F a o (sub_left hs), ?_⟩
    have hf : FnAt Q w (pt (o + a.cnt)) (h.td []) [pt (o + a.cnt - 1)] (zI (Zt ts) ((o + a.cnt : Nat) : Int)) := hf
    rw [hz] at hf
    exact hf
  | .t2 h a b, o, hs => by
    have hz := zt_is hk (.t2 h a b) o hs
    simp only [Tt.flat] at hs
    have hab := sub_left hs
    have hb := sub_right hab
    rw [a.flat_len] at hb
    have hl := sub_right hs 0 (by simp)
    rw [List.length_append, a.flat_len, b.flat_len, ← Nat.add_assoc] at hl
    have hf := fn_td (forest_at F hl)
    simp only [Hd.td, List.map_cons, List.map_nil] at hf
    rw [pt_at (pt := pt) a.cnt_pos, pt_at (pt := pt) b.cnt_pos] at hf
    rw [show o + (Tt.t2 h a b).cnt - 1 = o + a.cnt + b.cnt by simp only [Tt.cnt]; omega] at hz ⊢
    refine ⟨_, _, forest_is hk F a o (sub_left hab), forest_is hk F b (o + a.cnt) hb, ?_⟩
    have hf : FnAt Q w (pt (o + a.cnt + b.cnt)) (h.td []) [pt (o + a.cnt - 1), pt (o + a.cnt + b.cnt - 1)] (zI (Zt ts) ((o + a.cnt + b.cnt : Nat) : Int)) := hf
    rw [hz] at hf
    exact hf
  | .t3 h a b d, o, hs => by
    have hz := zt_is hk (.t3 h a b d) o hs
    simp only [Tt.flat] at hs
    have habd := sub_left hs
    have hab := sub_left habd
    have hb := sub_right hab
    have hd := sub_right habd
    rw [a.flat_len] at hb
    rw [List.length_append, a.flat_len, b.flat_len, ← Nat.add_assoc] at hd
    have hl := sub_right hs 0 (by simp)
    rw [List.length_append, List.length_append, a.flat_len, b.flat_len, d.flat_len, ← Nat.add_assoc, ← Nat.add_assoc] at hl
    have hf := fn_td (forest_at F hl)
    simp only [Hd.td, List.map_cons, List.map_nil] at hf
    rw [pt_at (pt := pt) a.cnt_pos, pt_at (pt := pt) b.cnt_pos, pt_at (pt := pt) d.cnt_pos] at hf
    rw [show o + (Tt.t3 h a b d).cnt - 1 = o + a.cnt + b.cnt + d.cnt by simp only [Tt.cnt]; omega] at hz ⊢
    refine ⟨_, _, _, forest_is hk F a o (sub_left hab), forest_is hk F b (o + a.cnt) hb, forest_is hk F d (o + a.cnt + b.cnt) hd, ?_⟩
    have hf : FnAt Q w (pt (o + a.cnt + b.cnt + d.cnt)) (h.td []) [pt (o + a.cnt - 1), pt (o + a.cnt + b.cnt - 1), pt (o + a.cnt + b.cnt + d.cnt - 1)] (zI (Zt ts) ((o + a.cnt + b.cnt + d.cnt : Nat) : Int)) := hf
    rw [hz] at hf
    exact hf
/-- The root that l3Tree answers stands for the term's tree. -/
theorem forest_root {Q : Nat → Prop} {w : World} {pt : Nat → Nat} {ts : List Td} (hk : KidsIn ts ts.length) (F : Forest Q w pt ts ts.length) {T : Tt} (hT : T.flat 0 = ts) : SpT Q w T (pt (ts.length - 1)) := by
  have h := forest_is hk F T 0 (fun j _ => by rw [hT, Nat.zero_add])
  have hc : T.cnt = ts.length := by rw [← T.flat_len 0, hT]
  rw [hc, Nat.zero_add] at h
  exact h
end Go.Proofs.YtjkkojefpecbfaaGreat
