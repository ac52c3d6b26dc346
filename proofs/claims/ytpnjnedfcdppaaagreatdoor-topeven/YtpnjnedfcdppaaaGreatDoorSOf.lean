/-
  grown, of a list that tells a tree; shape.Of of such a list.
-/
import Derived.Test.YtpnjnedfcdppaaaGreatDoorSOrdAll
import Derived.BigRegion
namespace Go.Proofs.YtpnjnedfcdppaaaGreatDoor
open Go.RowKit

/-- all keys on the left are less, all on the right more -/
def Tr.srt : Tr → Prop
  | .nil => True
  | .node a k b => (∀ x ∈ a.pre, x < k) ∧ (∀ x ∈ b.pre, k < x) ∧ a.srt ∧ b.srt

structure Grw (w w' : World) (v v' : Value) : Prop where
  gb : w.grownBy w' v.ownBlock
  at_ : v'.ownBlock = v.ownBlock ∨ ∀ g, v'.ownBlock = some g → w.heap.size ≤ g
theorem Grw.refl (w : World) (v : Value) : Grw w w v v := ⟨World.grownBy.refl _ _, .inl rfl⟩
theorem Grw.trans {w w1 w2 : World} {v v1 v2 : Value} (h : Grw w w1 v v1) (h1 : Grw w1 w2 v1 v2) : Grw w w2 v v2 := by
  refine ⟨h.gb.andThen h1.gb (fun j hj => ?_), ?_⟩
  · rcases h.at_ with e | e
    · right; rw [← e]; exact hj
    · left; exact e j hj
  · rcases h1.at_ with e1 | e1
    · rcases h.at_ with e | e
      · left; rw [e1, e]
      · right; rw [e1]; exact e
    · right
      intro g hg
      have := e1 g hg
      have := h.gb.size
      omega
theorem Grw.of_below {w w' : World} (v : Value) (h : Below w.heap.size w w') : Grw w w' v v := ⟨⟨h.os, h.tape, h.output, h.size, fun k hk _ => h.block k hk⟩, .inl rfl⟩
theorem Grw.below {w w' : World} {v v' : Value} {base : Nat} (h : Grw w w' v v') (hb : base ≤ w.heap.size) (hv : ∀ g, v.ownBlock = some g → base ≤ g) : Below base w w' := (Below.refl _ _).grown h.gb hb hv
theorem Grw.cell {w w' : World} {v v' : Value} (h : Grw w w' v v') {p : Addr} {u : Value} (hc : w.cell? p = some u) (hne : v.ownBlock ≠ some p.block) : w'.cell? p = some u := h.gb.cell hc (fun e => hne e.symm)
theorem IS.low {w w' : World} {base n c : Nat} {A : Option Addr} {l : List Int} (h : IS w A n c l) (hA : 0 < n → ∀ ad, A = some ad → ad.block < base) (hb : Below base w w') : IS w' A n c l := by
  refine ⟨h.len, h.rd.1, fun hn => ?_⟩
  obtain ⟨b, off, e, hlt, hc⟩ := h.rd.2 hn
  have hbb := hA hn _ e
  exact ⟨b, off, e, Nat.lt_of_lt_of_le hlt hb.size, fun i hi j hj => (hb.cell (by exact hbb)).trans (hc i hi j hj)⟩

theorem own_lt {w : World} {base t : Nat} {v : Value} {L : PL} (h : OwnR w base t v L) : ∀ g, v.ownBlock = some g → g < w.heap.size := by
  intro g hg
  rcases h.2 with ⟨rfl, _⟩ | ⟨g', cap, cur, rfl, hb, hh, _⟩
  · simp [Value.ownBlock] at hg
  · simp [Value.ownBlock] at hg
    subst hg
    rcases Nat.lt_or_ge g' w.heap.size with hlt | hge
    · exact hlt
    · rw [Array.getElem?_eq_none hge] at hh; cases hh
theorem src_one (w : World) (k d : Int) : Src (w.alloc (.cells #[I k, I d] 82)) (some ⟨w.heap.size, 0, none⟩) 1 [(k, d)] := by
  refine ⟨rfl, fun _ => ⟨_, rfl, fun j u hu => ?_⟩⟩
  rw [addn, cell_of_row _ _ _ _ _ _ (heap_alloc_new w _)]
  simpa [flat] using hu

theorem run_makeR {P : Program} (t e : TypeId) (ht : P.underlying t = some (.slice e)) (hi : (P.info? e).map (fun i => (i.zero, i.size, i.bytes)) = some (some (.agg #[I 0, I 0]), 2, 16)) (n c : Nat) (hnc : n ≤ c) (hc : c ≤ 1000000) (w : World) :
    (Instr.makeSlice t (.int .i64 (n : Int)) (.int .i64 (c : Int))).run P w = .ok (.slice (some ⟨w.heap.size, 0, none⟩) n c) (w.alloc (.cells (flat (List.replicate c (0, 0))).toArray e)) := by
  obtain ⟨i, h1, hz, hs, hb⟩ := info_parts hi
  have := run_make (P := P) w t e i _ ht h1 hz .i64 .i64 n c (by omega) (by omega) (by rw [hb]; omega) (by omega)
  rw [this, hs]
  simp only [Int.toNat_natCast, Value.cells]
  rw [flat_made]

/-- spots come back in a row of the call's own, and true -/
def RetGr (L : PL) (base : Nat) (w : World) (v : Value) (e : Ending) (w' : World) : Prop := ∃ v', e = .returned (.tuple #[v', .bool true]) ∧ OwnR w' base 82 v' L ∧ Grw w w' v v'

end Go.Proofs.YtpnjnedfcdppaaaGreatDoor
