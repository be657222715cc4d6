/- What the specification's reader of bytes answers: the next byte, by its place among the bytes. -/
import Derived.Test.YtlmhpdmgjfankaaDoorLev
namespace Go.Proofs.YtlmhpdmgjfankaaDoor
open Go.ChangeShapes Go.WideShapes Go.ChangeAt Go.RowKit

/-- Bytes and a place among them. -/
structure Pl where
  bs : List UInt8
  p : Nat
/-- The byte at the place, 0 behind the end; and the next place. -/
def Pl.v (ρ : Pl) : Nat := if h : ρ.p < ρ.bs.length then ρ.bs[ρ.p].toNat else 0
def Pl.n (ρ : Pl) : Pl := if ρ.p < ρ.bs.length then ⟨ρ.bs, ρ.p + 1⟩ else ρ
theorem Pl.v_lt (ρ : Pl) : ρ.v < 256 := by
  unfold Pl.v; split
  · exact UInt8.toNat_lt _
  · omega
/-- Bytes that lie below a block number. -/
def BytesAt (base : Nat) (w : World) (a : Option Addr) (bs : List UInt8) : Prop :=
  0 < bs.length → ∃ b off, a = some ⟨b, off, none⟩ ∧ b < base ∧ ∀ j (h : j < bs.length), w.cell? ⟨b, off + j, none⟩ = some (.int .u8 (bs[j].toNat : Int))
/-- A reader: bytes and a place. -/
def RdAt (ρ : Pl) (base : Nat) (w : World) (R : Nat) : Prop :=
  ∃ (a : Option Addr) (cap : Nat), w.ownsRow base 100 2 (.slice (some ⟨R, 0, none⟩) 1 1) 1 [.slice a ρ.bs.length cap, .int .i64 (ρ.p : Int)] ∧ ρ.bs.length ≤ 1000 ∧ ρ.p ≤ 1000 ∧ BytesAt base w a ρ.bs
theorem RdAt.lt {ρ : Pl} {base : Nat} {w : World} {R : Nat} (h : RdAt ρ base w R) : base ≤ R ∧ R < w.heap.size := by
  obtain ⟨a, cap, h1, _⟩ := h; exact h1.lt R rfl
theorem RdAt.row {ρ : Pl} {base : Nat} {w : World} {R : Nat} (h : RdAt ρ base w R) : ∃ a n cap p, w.ownsRow base 100 2 (.slice (some ⟨R, 0, none⟩) 1 1) 1 [.slice a n cap, .int .i64 (p : Int)] := by
  obtain ⟨a, cap, h1, _⟩ := h; exact ⟨a, _, cap, _, h1⟩
theorem RdAt.tag {ρ : Pl} {base : Nat} {w : World} {R : Nat} (h : RdAt ρ base w R) : ∃ cs, w.heap[R]? = some (.cells cs 100 (0, 0)) := by
  obtain ⟨a, cap, h1, _⟩ := h; exact row_tag h1
theorem BytesAt.keep {base : Nat} {w w' : World} {a : Option Addr} {bs : List UInt8} (h : BytesAt base w a bs) (hb : Below base w w') : BytesAt base w' a bs := fun h0 => by
  obtain ⟨b, off, h1, h2, h3⟩ := h h0
  refine ⟨b, off, h1, h2, fun j hj => ?_⟩
  rw [hb.cell (p := ⟨b, off + j, none⟩) h2]; exact h3 j hj
theorem RdAt.keep {ρ : Pl} {base : Nat} {w w' : World} {R : Nat} (h : RdAt ρ base w R) (hb : Below w.heap.size w w') : RdAt ρ base w' R := by
  have hl := h.lt
  obtain ⟨a, cap, h1, h2, h3, h4⟩ := h
  exact ⟨a, cap, row_keep hb h1, h2, h3, h4.keep (hb.mono (by omega))⟩
/-- A row of other cells may be written. -/
theorem RdAt.grown {ρ : Pl} {base : Nat} {w w' : World} {R g : Nat} (h : RdAt ρ base w R) (hg : w.grownBy w' (some g)) (hr : R ≠ g) (hb : base ≤ g) : RdAt ρ base w' R := by
  have hl := h.lt
  obtain ⟨a, cap, h1, h2, h3, h4⟩ := h
  exact ⟨a, cap, h1.kept hg (.inr (by simp [Value.ownBlock]; exact hr)), h2, h3, h4.keep (below_of hg hb (by omega))⟩

set_option maxRecDepth 20000 in
set_option maxHeartbeats 1000000 in
theorem next_any {ρ : Pl} (R : Nat) (base : Nat) (w : World) (h : RdAt ρ base w R) :
    Calls Tryd.prog 41 #[.pointer (some ⟨R, 0, none⟩)] w fun e w' => ∃ v : Int, e = .returned (.int .i64 v) ∧ 0 ≤ v ∧ v < 256 ∧ RdAt ρ.n base w' R ∧ w.grownBy w' (some R) ∧ v = (ρ.v : Int) := by
  have hl := h.lt
  obtain ⟨a, cap, h1, h2, h3, h4⟩ := h
  obtain ⟨bs, p⟩ := ρ
  simp only at h1 h2 h3 h4
  have c0 : w.cell? ⟨R, 0, none⟩ = some (.slice a bs.length cap) := by rw [h1.cellAt 0 (by omega)]; rfl
  have c1 : w.cell? ⟨R, 1, none⟩ = some (.int .i64 (p : Int)) := by rw [h1.cellAt 1 (by omega)]; rfl
  have cf : w.frozen? ⟨R, 1, none⟩ = false := h1.frozenAt 1
  have H1 := hide h1
  have H4 := hide h4
  clear h1 h4
  by_cases hp : p < bs.length
  · obtain ⟨b, off, rfl, hb, hq⟩ := H4.out (by omega)
    have cq := hq p hp
    have HE : Hid ((Pl.mk bs p).n = ⟨bs, p + 1⟩ ∧ (Pl.mk bs p).v = bs[p].toNat) := by
      show _ ∧ _
      unfold Pl.n Pl.v
      simp [hp]
    obtain ⟨q, hqe⟩ : ∃ q : Nat, q = bs[p].toNat := ⟨_, rfl⟩
    have q1 : q < 256 := by rw [hqe]; exact UInt8.toNat_lt _
    rw [← hqe] at cq HE
    clear hqe
    have hp' : (p : Int) < (bs.length : Int) := by omega
    have hw1 : IntKind.i64.wrap ((p : Int) + 1) = (p : Int) + 1 := by rw [IntKind.wrap_i64]; omega
    have hwq : IntKind.i64.wrap (q : Int) = (q : Int) := by rw [IntKind.wrap_i64]; omega
    have HN := hide (show w.drew.drew.ownsRow base 100 2 (.slice (some ⟨R, 0, none⟩) 1 1) 1 [.slice (some ⟨b, off, none⟩) bs.length cap, .int .i64 (p : Int)] from H1.out)
    have hbne : ¬ b = R := by omega
    clear hq
    go_enter Tryd.func41, Tryd.ntmps41
    go_wp2_with fail
    go_region
    go_wp2_with fail
    go_region
    go_wp2_with fail
    go_ret
    refine ⟨q, rfl, by omega, by omega, ?_, ?_, by rw [HE.out.2]⟩
    · rw [HE.out.1]
      exact ⟨_, cap, (HN.out.stored 1 (.int .i64 ((p + 1 : Nat) : Int))).1, h2, (by show p + 1 ≤ 1000; omega), H4.out.keep ((((Below.refl base w).drew).drew).setCell (p := ⟨_, _, _⟩) (by show base ≤ R; omega) _)⟩
    · exact ((((grown_of ((Below.refl w.heap.size w).drew.drew)).but (some R)).trans (grown_set _ ⟨R, 1, none⟩ _)))
  · have hp' : ¬ (p : Int) < (bs.length : Int) := by omega
    have HE : Hid ((Pl.mk bs p).n = ⟨bs, p⟩ ∧ (Pl.mk bs p).v = 0) := by
      show _ ∧ _
      unfold Pl.n Pl.v
      simp [hp]
    go_enter Tryd.func41, Tryd.ntmps41
    go_wp2_with fail
    go_region
    go_wp2_with fail
    go_ret
    exact ⟨0, rfl, by omega, by omega, by rw [HE.out.1]; exact ⟨a, cap, H1.out, h2, h3, H4.out.keep (Below.refl base w).drew⟩, (grown_of ((Below.refl w.heap.size w).drew)).but _, by rw [HE.out.2]; rfl⟩
end Go.Proofs.YtlmhpdmgjfankaaDoor
