/- slices.Sort and slices.Compact at []string, as the library's shelf has them, laid at this program. -/
import Derived.Test.YtpmpooekpeocdaaGreatLoF
import Derived.Ground.NamesProg
import Derived.Shelf.Lay
import Derived.Shelf.Lays
import Derived.Shelf.Slices.CompactS
import Derived.Sort.EveryDepth
import Derived.Shelf.Sort.AssemblysIn
namespace Go.Proofs
open Go.Shelf Go.Lib Go.Sort Go.RowKit
shelf_lay Lays.n190 Nm 190 at Tryz as Tryz.lays190
shelf_lay Lays.n194 Nm 194 at Tryz as Tryz.lays194
end Go.Proofs
namespace Go.Proofs.YtpmpooekpeocdaaGreat
open Go.ChangeShapes Go.WideShapes Go.ChangeAt Go.RowKit Go.Sort Go.Shelf Go.Lib

theorem sort_someS (blk off cap : Nat) (zs : List (List UInt8)) (w : World) (hH : Holds encStr w blk off zs.toArray) (hblk : blk < w.heap.size) (hsz : zs.length < 4611686018427387904) :
    Calls Tryz.prog 155 #[.slice (some ⟨blk, off, none⟩) zs.length cap] w fun e w' => e = .returned (.tuple #[]) ∧ ∃ n os, w' = grow (putRow encStr (Sort.ahead w n) blk off (zs.mergeSort fun x y => decide (x ≤ y)).toArray) os := by
  have h := calls_of_every_depth fun D => AnyS.slices_Sort_string_in Tryz.lays190 D blk off cap zs w hH hblk hsz
  change Calls Tryz.prog 155 _ _ _ at h
  exact h
theorem comp_noneS (p : Option Addr) (cap : Nat) (w : World) : Calls Tryz.prog 156 #[.slice p 0 cap] w fun e w' => e = .returned (.slice p 0 cap) ∧ w' = w := by
  have h := Any.slices_Compact_string_empty Tryz.lays194 p cap w
  change Calls Tryz.prog 156 _ _ _ at h
  exact h
theorem comp_someS (blk off cap : Nat) (zs : List (List UInt8)) (w : World) (hH : Holds encStr w blk off zs.toArray) (hsz : zs.length ≤ 9223372036854775807) (hcap : zs.length ≤ cap) :
    Calls Tryz.prog 156 #[.slice (some ⟨blk, off, none⟩) zs.length cap] w fun e w' => e = .returned (.slice (some ⟨blk, off, none⟩) (Lib.compact zs).length cap) ∧ ∃ q, w' = putRow encStr (Sort.ahead w q) blk off (Lib.compact zs ++ List.replicate (zs.length - (Lib.compact zs).length) []).toArray := by
  have h := Any.slices_Compact_string Tryz.lays194 blk off cap zs w hH hsz hcap
  change Calls Tryz.prog 156 _ _ _ at h
  exact h
set_option maxRecDepth 100000 in
set_option maxHeartbeats 2000000 in
theorem len64_zeroS (w : World) : Calls Tryz.prog 231 #[.int .u64 0] w fun e w' => e = .returned (.int .i64 0) ∧ w' = w := by
  go_enter Tryz.func231, Tryz.ntmps231
  go_wp2_with fail
  go_ret
  refine ⟨?_, rfl⟩
  show Ending.returned (.int .i64 (wrap64 (wrap64 (len8 0)))) = _
  rw [show wrap64 (wrap64 (len8 0)) = 0 from by first | kernel_rfl | (simp [len8, wrap64]; done) | (unfold len8 wrap64; rfl) | decide +kernel]
theorem len_zeroS (w : World) : Calls Tryz.prog 188 #[.int .u64 0] w fun e w' => e = .returned (.int .i64 0) ∧ w' = w := by
  go_enter Tryz.func188, Tryz.ntmps188
  go_wp2_with (go_at_call 231; refine (len64_zeroS _).mono ?_; rintro e w' ⟨rfl, rfl⟩)
  go_ret
  exact ⟨rfl, rfl⟩
theorem ins_noneS (p : Option Addr) (cap : Nat) (w : World) : Calls Tryz.prog 221 #[.slice p 0 cap, .int .i64 0, .int .i64 0] w fun e w' => e = .returned (.tuple #[]) ∧ w' = w := by
  go_enter Tryz.func221, Tryz.ntmps221
  go_wp2_with fail
  go_loopw [6] (fun i wr => i = .int .i64 1 ∧ wr = w) (fun _ _ => 0)
  case atStart => exact ⟨rfl, rfl⟩
  case round =>
    obtain ⟨rfl, rfl⟩ := hrel
    go_wp2_with fail
    (first | go_end0 | (refine bodyPost_ret (results_none rfl _ _ _) rfl ?_) | ((try simp only [Exit.inBlock, Exit.then]); refine bodyPost_ret (results_none rfl _ _ _) rfl ?_))
    exact ⟨rfl, rfl⟩
set_option maxHeartbeats 2000000 in
theorem pdq_noneS (p : Option Addr) (cap : Nat) (w : World) : Calls Tryz.prog 187 #[.slice p 0 cap, .int .i64 0, .int .i64 0, .int .i64 0] w fun e w' => e = .returned (.tuple #[]) ∧ w' = w := by
  go_enter Tryz.func187, Tryz.ntmps187
  go_wp2_with fail
  go_loopw [1, 2, 3, 8, 9] (fun a b c d e wr => a = .int .i64 0 ∧ b = .int .i64 0 ∧ c = .int .i64 0 ∧ d = .bool true ∧ e = .bool true ∧ wr = w) (fun _ _ _ _ _ _ => 0)
  case atStart => exact ⟨rfl, rfl, rfl, rfl, rfl, rfl⟩
  case round =>
    obtain ⟨rfl, rfl, rfl, rfl, rfl, rfl⟩ := hrel
    go_wp2_with (go_at_call 221; refine (ins_noneS _ _ _).mono ?_; rintro e w' ⟨rfl, rfl⟩)
    (first | go_end0 | (refine bodyPost_ret (results_none rfl _ _ _) rfl ?_) | ((try simp only [Exit.inBlock, Exit.then]); refine bodyPost_ret (results_none rfl _ _ _) rfl ?_))
    exact ⟨rfl, rfl⟩
theorem sort_noneS (p : Option Addr) (cap : Nat) (w : World) : Calls Tryz.prog 155 #[.slice p 0 cap] w fun e w' => e = .returned (.tuple #[]) ∧ w' = w := by
  go_enter Tryz.func155, Tryz.ntmps155
  go_wp2_with (first | (go_at_call 188; refine (len_zeroS _).mono ?_; rintro e w' ⟨rfl, rfl⟩) | (go_at_call 187; refine (pdq_noneS _ _ _).mono ?_; rintro e w' ⟨rfl, rfl⟩))
  (first | go_end0 | (refine bodyPost_ret (results_none rfl _ _ _) rfl ?_) | ((try simp only [Exit.inBlock, Exit.then]); refine bodyPost_ret (results_none rfl _ _ _) rfl ?_))
  exact ⟨rfl, rfl⟩
theorem sortS : SortS := ⟨sort_noneS, sort_someS, comp_noneS, comp_someS⟩
end Go.Proofs.YtpmpooekpeocdaaGreat
