/- Closed, on both sides. -/
import Derived.Test.YtlhhdhmhncjilaaGreatStH
import Derived.Test.YtlhhdhmhncjilaaGreatTFTree
namespace Go.Proofs.YtlhhdhmhncjilaaGreat
open Go.ChangeShapes Go.WideShapes Go.ChangeAt Go.RowKit

/-- How far the variables of a term reach. -/
def looseT (ts : List Td) : Int := (zI (Zt ts) ((ts.length - 1 : Nat) : Int)).lo
def closedT (ts : List Td) (n : Int) : Bool := termB ts && decide (looseT ts ≤ n)
set_option maxRecDepth 20000 in
set_option maxHeartbeats 4000000 in
theorem specClosed_any (v : Value) (ts : List Td) (n : Int) (w : World) (hns : TNodesAt w v ts) (hsz : ∀ td ∈ ts, TLens td) (hlv : ∀ td ∈ ts, td.lv.length ≤ 1048576) :
    Calls Tryz.prog 6 #[.agg #[v], .int .i64 n] w fun e w' => e = .returned (.bool (closedT ts n)) ∧ Below w.heap.size w w' := by
  have HT := hide (fun W (hb : Below w.heap.size w W) => l3TreeF_any v ts W (hns.keep hb) hsz hlv)
  have HB1 := hide (bel_alloc (Below.refl w.heap.size w) (.cells #[v] 29))
  obtain ⟨a, cap, rfl, _, _, _⟩ := hns
  clear hsz hlv
  go_enter Tryz.func6, Tryz.ntmps6
  go_wp2_with fail
  refine (HT.out _ HB1.out).mono ?_
  rintro e w2 ⟨he, hb2⟩
  have HB2 := hide (bel_trans HB1.out hb2)
  clear hb2 HB1 HT
  rcases he with ⟨ht, rfl⟩ | ⟨ht, _, pt, Q, rfl, hf, _⟩
  · have HE : Hid (closedT ts n = false) := by show _ = _; simp [closedT, ht]
    clear ht
    have HN := hide (tnone_none w2)
    go_wp2_with (go_at_call 14; refine HN.out.mono ?_; rintro e w3 ⟨rfl, hw⟩; have hw := hw.symm; subst hw)
    go_ret
    exact ⟨by rw [HE.out] <;> rfl, HB2.out⟩
  · have hl : 1 ≤ ts.length := (root_sz ht).1
    have hz := (hf (ts.length - 1) (by omega) (by omega)).sz
    have HE : Hid (closedT ts n = decide ((zI (Zt ts) ((ts.length - 1 : Nat) : Int)).lo ≤ n)) := by show (termB ts && decide (looseT ts ≤ n)) = _; rw [ht]; rfl
    clear ht hf
    generalize zI (Zt ts) ((ts.length - 1 : Nat) : Int) = z at *
    generalize pt (ts.length - 1) = pb at *
    have HN := hide (tnone_some ⟨pb, 0, none⟩ w2)
    have d7 : w2.cell? ⟨pb, 7, none⟩ = some (.int .i64 z.lo) := by
      obtain ⟨_, _, _, _, _, _, hz⟩ := hz
      rw [World.ownsRow.cellAt hz 7 (by omega)]; rfl
    have hpl := lt_cell d7
    go_wp2_with (go_at_call 14; refine HN.out.mono ?_; rintro e w3 ⟨rfl, hw⟩; have hw := hw.symm; subst hw)
    go_ret
    exact ⟨by rw [HE.out] <;> rfl, HB2.out⟩

set_option maxRecDepth 20000 in
set_option maxHeartbeats 4000000 in
theorem implClosed_any (v : Value) (ts : List Td) (n : Int) (w : World) (hns : TNodesAt w v ts) (hsz : ∀ td ∈ ts, TLens td) (hsm : ∀ td ∈ ts, TSmall td) (hsp : ∀ td ∈ ts, (spell td.lv).length ≤ 1000000000) :
    Calls Tryz.prog 8 #[.agg #[v], .int .i64 n] w fun e w' => e = .returned (.bool (closedT ts n)) ∧ Below w.heap.size w w' := by
  obtain ⟨W, hW⟩ : ∃ W, W = (w.alloc (.cells #[v] 29)).drew := ⟨_, rfl⟩
  have hbW : Below w.heap.size w W := by rw [hW]; exact (bel_alloc (Below.refl w.heap.size w) _).drew
  have HNW := hide (hns.keep hbW)
  have HSZ := hide hsz
  have HSM := hide hsm
  have HSP := hide hsp
  have HBW := hide hbW
  have HW := hide hW
  obtain ⟨a, cap, rfl, _, _, _⟩ := hns
  have hS0 : (fun w' : World => w'.cell? ⟨w.heap.size, 0, none⟩ = some (.slice a ts.length cap)) (w.alloc (.cells #[.slice a ts.length cap] 29)).drew := by show World.cell? _ _ = _; simp [go_sem]
  have HS0 := hide (show W.cell? ⟨w.heap.size, 0, none⟩ = some (.slice a ts.length cap) by rw [hW]; exact hS0)
  clear hsz hsm hsp hbW hW
  go_enter Tryz.func8, Tryz.ntmps8
  go_wp2_with fail
  refine anyE_region (L := 7) (S := fun w' : World => w'.cell? ⟨w.heap.size, 0, none⟩ = some (.slice a ts.length cap)) (by kernel_rfl) ?_
  refine anyE_take 1 (v := ?v1) rfl (by kernel_rfl) (by kernel_rfl) (by kernel_rfl) (by kernel_rfl) (fun _ _ _ h => h) (by rfl) ?hy1 hS0 ?rest1
  case hy1 =>
    intro wx hx
    have hx : wx.cell? ⟨w.heap.size, 0, none⟩ = some (.slice a ts.length cap) := hx
    go_simp
    try rfl
  case rest1 =>
  intro K hK
  go_simp
  refine hK.out _ ?_
  clear hK K
  rw [← HW.out]
  refine anyE_one 0 (by kernel_rfl) rfl (fun K hK => ?_)
  go_simp
  refine (newStore_any W).mono ?_
  rintro e w2 ⟨⟨Sb, mb, gb, rfl, hs2⟩, hb2⟩
  have hS2 := keep_cell hb2 HS0.out
  refine hK.out _ _ (fun _ => hS2) ?_
  clear hK K hS0
  refine anyE_one 2 (by kernel_rfl) rfl (fun K hK => ?_)
  go_simp
  refine (read_any _ ts W w2 Sb mb gb _ _ HNW.out HSZ.out HSM.out HSP.out hb2 hs2).mono ?_
  rintro e w3 ⟨he, hb3⟩
  have hS3 : w3.cell? ⟨w.heap.size, 0, none⟩ = some (.slice a ts.length cap) := keep_cell hb3 HS0.out
  have HB3 := hide (bel_trans HBW.out hb3)
  clear hs2 hb2 hb3 hS2
  rcases he with ⟨ht, rfl⟩ | ⟨ht, pt, clock, L, Z, H, rfl, hs3, hr3⟩
  · have HE : Hid (closedT ts n = false) := by show _ = _; simp [closedT, ht]
    clear ht
    refine hK.out _ _ (fun _ => hS3) ?_
    clear hK K
    refine anyE_take 3 (v := ?v2) rfl (by kernel_rfl) (by kernel_rfl) (by kernel_rfl) (by kernel_rfl) (fun _ _ _ h => h) (by rfl) ?hy2 hS3 ?rest2
    case hy2 =>
      intro wx hx
      have hx : wx.cell? ⟨w.heap.size, 0, none⟩ = some (.slice a ts.length cap) := hx
      go_simp
      try rfl
    case rest2 =>
    intro K hK
    go_simp
    refine hK.out _ ?_
    clear hK K
    refine anyE_take 4 (v := ?v3) rfl (by kernel_rfl) (by kernel_rfl) (by kernel_rfl) (by kernel_rfl) (fun _ _ _ h => h) (by rfl) ?hy3 hS3 ?rest3
    case hy3 =>
      intro wx hx
      have hx : wx.cell? ⟨w.heap.size, 0, none⟩ = some (.slice a ts.length cap) := hx
      go_simp
      try rfl
    case rest3 =>
    intro K hK
    go_simp
    refine hK.out _ ?_
    clear hK K
    refine anyE_take 5 (v := ?v4) rfl (by kernel_rfl) (by kernel_rfl) (by kernel_rfl) (by kernel_rfl) (fun _ _ _ h => h) (by rfl) ?hy4 hS3 ?rest4
    case hy4 =>
      intro wx hx
      have hx : wx.cell? ⟨w.heap.size, 0, none⟩ = some (.slice a ts.length cap) := hx
      go_simp
      try rfl
    case rest4 =>
    intro K hK
    go_simp
    refine hK.out _ ?_
    clear hK K
    refine anyE_take 6 (v := ?v5) rfl (by kernel_rfl) (by kernel_rfl) (by kernel_rfl) (by kernel_rfl) (fun _ _ _ h => h) (by rfl) ?hy5 hS3 ?rest5
    case hy5 =>
      intro wx hx
      have hx : wx.cell? ⟨w.heap.size, 0, none⟩ = some (.slice a ts.length cap) := hx
      go_simp
      try rfl
    case rest5 =>
    intro K hK
    go_simp
    refine hK.out _ ?_
    clear hK K
    refine anyE_one 7 (by kernel_rfl) rfl (fun K hK => ?_)
    go_simp
    refine hK.out _ _ (fun h => absurd rfl h) ?_
    clear hK K
    refine anyE_done (by kernel_rfl) ?_ _
    go_wp2_with fail
    go_ret
    exact ⟨by rw [HE.out] <;> rfl, HB3.out⟩
  · have hl : 1 ≤ ts.length := (root_sz ht).1
    obtain ⟨⟨c, hc⟩, hz⟩ := hr3 (ts.length - 1) (by omega) (by omega)
    have d0 := (hs3.ents _ hc).kz.2.1
    have d10 : w3.cell? ⟨pt (ts.length - 1), 10, none⟩ = some (.int .i64 (Z (pt (ts.length - 1))).lo) := d0
    rw [hz] at d10
    have HE : Hid (closedT ts n = decide ((zI (Zt ts) ((ts.length - 1 : Nat) : Int)).lo ≤ n)) := by show (termB ts && decide (looseT ts ≤ n)) = _; rw [ht]; rfl
    clear ht hs3 hr3 hc hz d0
    generalize zI (Zt ts) ((ts.length - 1 : Nat) : Int) = z at *
    generalize pt (ts.length - 1) = pb at *
    have hpl := lt_cell d10
    refine hK.out _ _ (fun _ => hS3) ?_
    clear hK K
    refine anyE_take 3 (v := ?v6) rfl (by kernel_rfl) (by kernel_rfl) (by kernel_rfl) (by kernel_rfl) (fun _ _ _ h => h) (by rfl) ?hy6 hS3 ?rest6
    case hy6 =>
      intro wx hx
      have hx : wx.cell? ⟨w.heap.size, 0, none⟩ = some (.slice a ts.length cap) := hx
      go_simp
      try rfl
    case rest6 =>
    intro K hK
    go_simp
    refine hK.out _ ?_
    clear hK K
    refine anyE_take 4 (v := ?v7) rfl (by kernel_rfl) (by kernel_rfl) (by kernel_rfl) (by kernel_rfl) (fun _ _ _ h => h) (by rfl) ?hy7 hS3 ?rest7
    case hy7 =>
      intro wx hx
      have hx : wx.cell? ⟨w.heap.size, 0, none⟩ = some (.slice a ts.length cap) := hx
      go_simp
      try rfl
    case rest7 =>
    intro K hK
    go_simp
    refine hK.out _ ?_
    clear hK K
    refine anyE_take 5 (v := ?v8) rfl (by kernel_rfl) (by kernel_rfl) (by kernel_rfl) (by kernel_rfl) (fun _ _ _ h => h) (by rfl) ?hy8 hS3 ?rest8
    case hy8 =>
      intro wx hx
      have hx : wx.cell? ⟨w.heap.size, 0, none⟩ = some (.slice a ts.length cap) := hx
      go_simp
      try rfl
    case rest8 =>
    intro K hK
    go_simp
    refine hK.out _ ?_
    clear hK K
    refine anyE_take 6 (v := ?v9) rfl (by kernel_rfl) (by kernel_rfl) (by kernel_rfl) (by kernel_rfl) (fun _ _ _ h => h) (by rfl) ?hy9 hS3 ?rest9
    case hy9 =>
      intro wx hx
      have hx : wx.cell? ⟨w.heap.size, 0, none⟩ = some (.slice a ts.length cap) := hx
      go_simp
      try rfl
    case rest9 =>
    intro K hK
    go_simp
    refine hK.out _ ?_
    clear hK K
    refine anyE_one 7 (by kernel_rfl) rfl (fun K hK => ?_)
    go_simp
    refine hK.out _ _ (fun h => absurd rfl h) ?_
    clear hK K
    refine anyE_done (by kernel_rfl) ?_ _
    go_wp2_with fail
    go_ret
    exact ⟨by rw [HE.out] <;> rfl, HB3.out⟩
end Go.Proofs.YtlhhdhmhncjilaaGreat
