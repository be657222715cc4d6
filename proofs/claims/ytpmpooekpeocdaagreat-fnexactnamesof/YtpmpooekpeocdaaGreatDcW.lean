/- The walk of the law FnExactDeclOk. -/
import Derived.Test.YtpmpooekpeocdaaGreatFfS
import Derived.Test.YtpmpooekpeocdaaGreatDcL
import Derived.Test.YtpmpooekpeocdaaGreatDcB
import Derived.Test.YtpmpooekpeocdaaGreatDcC
import Derived.Deep.RegionHeld3
import Derived.Deep.CutRange
import Derived.Deep.Upon
namespace Go.Proofs.YtpmpooekpeocdaaGreat
open Go.ChangeShapes Go.WideShapes Go.ChangeAt Go.RowKit

theorem dw_ns {ns : List Nd} {nd : Nd} (h : nd ∈ ns) : ndSize nd ≤ nsSum ns := by
  induction ns with
  | nil => cases h
  | cons y l ih =>
    simp only [nsSum]
    rcases List.mem_cons.1 h with rfl | h2
    · omega
    · have := ih h2; omega
theorem dw_tsmall {ts : List Td} (h : tmSize ts ≤ 1048576) : ∀ td ∈ ts, TSmall td := by
  intro td htd
  have h1 := sumL_mem tdSize htd
  unfold tmSize at h
  have h2 : tdSize td = td.s.size + (td.lv.length + sumL lvSize td.lv) + td.kids.length := rfl
  refine ⟨by omega, fun l hl => ?_, by omega⟩
  have h3 := sumL_mem lvSize hl
  have h4 : lvSize l = l.length + nsSum l := rfl
  refine ⟨by omega, fun nd hnd => ?_⟩
  have h5 := dw_ns hnd
  have h6 : ndSize nd = nd.s.size + nd.kids.length := rfl
  omega
theorem dw_spell {ts : List Td} (h : tmSize ts ≤ 1048576) : ∀ td ∈ ts, (spell td.lv).length ≤ 1000000000 := by
  intro td htd
  have h1 := sumL_mem tdSize htd
  unfold tmSize at h
  have h2 : tdSize td = td.s.size + (td.lv.length + sumL lvSize td.lv) + td.kids.length := rfl
  have h3 := spell_len td.lv
  omega
theorem dw_ct {d : Dc} (h : dcSize d ≤ 1048576) : ∀ c ∈ d.cs, tmSize c.t ≤ 1048576 := fun c hc => by
  have h1 := sumL_mem ctSize hc
  have h2 : ctSize c = c.s.size + tmSize c.t := rfl
  unfold dcSize at h
  omega
theorem dw_t {d : Dc} (h : dcSize d ≤ 1048576) : tmSize d.t ≤ 1048576 ∧ tmSize d.v ≤ 1048576 ∧ d.ps.length ≤ 1048576 ∧ d.cs.length ≤ 1048576 := by unfold dcSize at h; omega
theorem dw_len {ts : List Td} (h : tmSize ts ≤ 1048576) : ts.length ≤ 1048576 := by unfold tmSize at h; omega
theorem dw_small {d : Dc} (h : dcSize d ≤ 1048576) : DcSmall d :=
  ⟨(dw_t h).2.2.1, ⟨dw_len (dw_t h).1, dw_tsmall (dw_t h).1⟩, ⟨dw_len (dw_t h).2.1, dw_tsmall (dw_t h).2.1⟩, ⟨(dw_t h).2.2.2, fun c hc => ⟨dw_len (dw_ct h c hc), dw_tsmall (dw_ct h c hc)⟩⟩⟩
theorem dw_s {d : Dc} (h : dcSize d ≤ 1048576) : DcS d := ⟨⟨dw_tsmall (dw_t h).1, dw_spell (dw_t h).1⟩, ⟨dw_tsmall (dw_t h).2.1, dw_spell (dw_t h).2.1⟩, fun c hc => ⟨dw_tsmall (dw_ct h c hc), dw_spell (dw_ct h c hc)⟩⟩
theorem dw_v {d : Dc} (h : dcSize d ≤ 1048576) : DcV d := ⟨fun td q => (dw_tsmall (dw_t h).1 td q).1, fun td q => (dw_tsmall (dw_t h).2.1 td q).1, fun c hc td q => (dw_tsmall (dw_ct h c hc) td q).1⟩

end Go.Proofs.YtpmpooekpeocdaaGreat
