/-
  Joined texts: YtpnjnedfcdppaaaGreatDoorGCheck, YtpnjnedfcdppaaaGreatDoorGOf.
-/
import Derived.Test.YtpnjnedfcdppaaaGreatDoorChecked
import Derived.Test.YtpnjnedfcdppaaaGreatDoorOSpotsAll
import Derived.Test.YtpnjnedfcdppaaaGreatDoorEqTAll
import Derived.Maps.OwnSet
import Derived.Maps.AppendAt
import Derived.WalkKit
import Derived.Deep.LoopGhost
import Derived.BigQuiet
import Derived.Deep.QuietTactic
import Derived.Test.YtpnjnedfcdppaaaGreatDoorOSumAll
/-
  check: may these keys come? What was seen is kept in a map of the call's own.
-/
namespace Go.Proofs.YtpnjnedfcdppaaaGreatDoor
open Go.RowKit Go.Maps

end Go.Proofs.YtpnjnedfcdppaaaGreatDoor

/-
  Of: the tree when keys came one behind the other.
-/
namespace Go.Proofs.YtpnjnedfcdppaaaGreatDoor
open Go.RowKit

theorem gerr_ne {E : Int} (h : E ≠ 0) : (E != 0) = true := by simpa using h

theorem Rep.newLeaf2 {B T : Nat} {c : PC} {s : PT} {t : Tr} {x : Int} {w : World} (h1 : Rep B (w.alloc (.cells #[I x, .pointer none, .pointer none] 111)) T c s) (hlt : ∀ y ∈ c.bs T, y < w.heap.size) (hf : ∀ f, c.fill (f s.tr) = t.alter x f) (hx : x ∉ t.ks) (hB : B ≤ w.heap.size) :
    ∃ t' : PT, Rep B ((w.alloc (.cells #[I x, .pointer none, .pointer none] 111)).setCell (c.ad T) (.pointer (some ⟨w.heap.size, 0, none⟩))) T .top t' ∧ t'.tr = t.ins x := by
  have hN : NB (w.alloc (.cells #[I x, .pointer none, .pointer none] 111)) w.heap.size x (.pointer none) (.pointer none) := heap_alloc_new w _
  have hr := Rep.put (B := B) (t := .node w.heap.size .nil x .nil) h1.ctx ⟨hN, trivial, trivial⟩ (by
    simp only [PT.bs, List.append_nil, List.cons_append, List.nil_append, List.nodup_cons]
    refine ⟨fun hm => ?_, (List.nodup_append.1 h1.nd).2.1⟩
    have := hlt w.heap.size hm
    omega) (by
    intro y hy
    simp only [PT.bs, List.append_nil, List.cons_append, List.nil_append, List.mem_cons] at hy
    rcases hy with rfl | hy
    · exact hB
    · exact h1.ge y (List.mem_append.2 (.inr hy)))
  obtain ⟨t', ht', et'⟩ := hr.up
  refine ⟨t', ht', ?_⟩
  rw [et', ← alter_ins hx, ← hf]
  rfl
end Go.Proofs.YtpnjnedfcdppaaaGreatDoor
