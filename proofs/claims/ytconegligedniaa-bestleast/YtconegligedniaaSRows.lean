/-
  ROWS OF TREES: slices of slices of spots that the call itself makes. Nothing is walked here.
-/
import Derived.Test.YtconegligedniaaSConc
namespace Go.Proofs.Ytconegligedniaa
open Go.RowKit

/-- its spots lie at the beginning of a block of spots -/
def Sl.tag (w : World) (s : Sl) : Prop := s.L.length = s.n ∧ s.n ≤ s.c ∧ (0 < s.n → ∃ g, s.A = some ⟨g, 0, none⟩ ∧ SB w g 42 s.L)
theorem Sl.tag.ok {w : World} {s : Sl} (h : s.tag w) : s.ok w := by
  refine ⟨h.1, h.2.1, fun h0 => ?_⟩
  obtain ⟨g, e, hsb⟩ := h.2.2 h0
  have hps := hsb.ps (c := s.c) (by rw [h.1]; exact h.2.1)
  rw [h.1] at hps
  obtain ⟨b, off, e', hr⟩ := hps.rd.2 h0
  exact ⟨b, off, by rw [e, e'], hr⟩
theorem Sl.tag.below {w w' : World} {s : Sl} (h : s.tag w) (hb : Below w.heap.size w w') : s.tag w' := by
  refine ⟨h.1, h.2.1, fun h0 => ?_⟩
  obtain ⟨g, e, hsb⟩ := h.2.2 h0
  exact ⟨g, e, hsb.below hb hsb.lt⟩
theorem Sl.tag.of_own {w : World} {base : Nat} {v : Value} {L : PL} (h : OwnR w base 42 v L) : ∃ s : Sl, v = s.val ∧ s.L = L ∧ s.tag w := by
  obtain ⟨A, c, rfl, hps, _⟩ := h.ps
  refine ⟨⟨A, L.length, c, L⟩, rfl, rfl, rfl, hps.rd.1, fun h0 => ?_⟩
  obtain ⟨g, e, _, _, _, hsb⟩ := h.sb h0
  exact ⟨g, e, hsb⟩

/-- a row of trees of the call's own -/
def OwnT (w : World) (base : Nat) (v : Value) (es : List Sl) : Prop := w.ownsRow base 22 1 v es.length (es.map Sl.val)
/-- an append onto a row of trees turns no tree -/
theorem Sl.tag.grown {w w' : World} {s : Sl} {base : Nat} {v : Value} {es : List Sl} (h : s.tag w) (ho : OwnT w base v es) (hg : w.grownBy w' v.ownBlock) : s.tag w' := by
  refine ⟨h.1, h.2.1, fun h0 => ?_⟩
  obtain ⟨g, e, hsb⟩ := h.2.2 h0
  refine ⟨g, e, ?_⟩
  obtain ⟨cur, hc, htk⟩ := hsb
  refine ⟨cur, ?_, htk⟩
  rw [hg.block g ?_ ?_]
  · exact hc
  · rcases Nat.lt_or_ge g w.heap.size with hlt | hge
    · exact hlt
    · rw [Array.getElem?_eq_none hge] at hc; cases hc
  · intro e2
    rcases ho.2 with ⟨rfl, _⟩ | ⟨g', cap, cur', rfl, _, hh, _⟩
    · simp [Value.ownBlock] at e2
    · simp [Value.ownBlock] at e2
      subst e2
      rw [hh] at hc
      injection hc with hc
      injection hc with _ ht
      exact absurd ht (by decide)
theorem OwnT.at_ {w : World} {base : Nat} {v : Value} {es : List Sl} (h : OwnT w base v es) (h0 : 0 < es.length) :
    ∃ g cap, v = .slice (some ⟨g, 0, none⟩) es.length cap ∧ g < w.heap.size ∧ ∀ i (hi : i < es.length), w.cell? ⟨g, i, none⟩ = some es[i].val := by
  rcases h.2 with ⟨_, h1⟩ | ⟨g, cap, cur, rfl, _, hh, _, _, _, htk⟩
  · omega
  · refine ⟨g, cap, rfl, ?_, fun i hi => ?_⟩
    · rcases Nat.lt_or_ge g w.heap.size with hlt | hge
      · exact hlt
      · rw [Array.getElem?_eq_none hge] at hh; cases hh
    · rw [cell_of_row _ _ _ _ _ _ hh]
      have : (es.map Sl.val)[i]? = some es[i].val := by simp [List.getElem?_eq_getElem hi]
      rw [← htk, List.getElem?_take, if_pos (by omega)] at this
      simpa using this
theorem OwnT.len {w : World} {base : Nat} {v : Value} {es : List Sl} (h : OwnT w base v es) : ∃ A c, v = .slice A es.length c := by
  rcases h.2 with ⟨rfl, h1⟩ | ⟨g, cap, cur, rfl, _⟩
  · exact ⟨none, 0, by rw [h1]⟩
  · exact ⟨_, _, rfl⟩
theorem OwnT.block_lt {w : World} {base : Nat} {v : Value} {es : List Sl} (h : OwnT w base v es) : ∀ g, v.ownBlock = some g → g < w.heap.size := by
  intro g hg
  rcases h.2 with ⟨rfl, _⟩ | ⟨g', cap, cur, rfl, _, hh, _⟩
  · simp [Value.ownBlock] at hg
  · simp [Value.ownBlock] at hg
    subst hg
    rcases Nat.lt_or_ge g' w.heap.size with hlt | hge
    · exact hlt
    · rw [Array.getElem?_eq_none hge] at hh; cases hh

/-- a row with its trees -/
structure TR (w : World) (base : Nat) (v : Value) (es : List Sl) : Prop where
  own : OwnT w base v es
  tags : ∀ s ∈ es, s.tag w
theorem TR.below {w w' : World} {base : Nat} {v : Value} {es : List Sl} (h : TR w base v es) (hb : Below w.heap.size w w') : TR w' base v es := ⟨own_below h.own hb, fun s hs => (h.tags s hs).below hb⟩
theorem TR.mono {w : World} {base base' : Nat} {v : Value} {es : List Sl} (h : TR w base v es) (hb : base' ≤ base) : TR w base' v es := ⟨own_mono1 h.own hb, h.tags⟩

/-- the row that grows, and two that are read -/
structure St (B : Nat) (w : World) (u v2 v3 : Value) (es es2 es3 : List Sl) : Prop where
  row : TR w B u es
  r2 : TR w 0 v2 es2
  r3 : TR w 0 v3 es3
  ne2 : v2.ownBlock = none ∨ v2.ownBlock ≠ u.ownBlock
  ne3 : v3.ownBlock = none ∨ v3.ownBlock ≠ u.ownBlock
theorem St.below {B : Nat} {w w' : World} {u v2 v3 : Value} {es es2 es3 : List Sl} (h : St B w u v2 v3 es es2 es3) (hb : Below w.heap.size w w') : St B w' u v2 v3 es es2 es3 :=
  ⟨h.row.below hb, h.r2.below hb, h.r3.below hb, h.ne2, h.ne3⟩
theorem St.append {B : Nat} {w w' : World} {u u' v2 v3 : Value} {es es2 es3 : List Sl} {s : Sl} (h : St B w u v2 v3 es es2 es3) (hs : s.tag w) (hown : OwnT w' B u' (es ++ [s])) (hg : w.grownBy w' u.ownBlock) (hat : u'.ownBlock = u.ownBlock ∨ u'.ownBlock = some w.heap.size) : St B w' u' v2 v3 (es ++ [s]) es2 es3 := by
  have keep : ∀ {v : Value} {fs : List Sl}, TR w 0 v fs → (v.ownBlock = none ∨ v.ownBlock ≠ u.ownBlock) → TR w' 0 v fs := fun hr hne => ⟨World.ownsRow.kept hr.own hg hne, fun s hs => (hr.tags s hs).grown h.row.own hg⟩
  have ne : ∀ {v : Value} {fs : List Sl}, TR w 0 v fs → (v.ownBlock = none ∨ v.ownBlock ≠ u.ownBlock) → (v.ownBlock = none ∨ v.ownBlock ≠ u'.ownBlock) := fun {v} {fs} hr hne => by
    rcases hne with hne | hne
    · exact .inl hne
    · right
      rcases hat with e | e
      · rw [e]; exact hne
      · rw [e]
        intro e2
        have := hr.own.block_lt _ e2
        omega
  refine ⟨⟨hown, fun x hx => ?_⟩, keep h.r2 h.ne2, keep h.r3 h.ne3, ne h.r2 h.ne2, ne h.r3 h.ne3⟩
  rcases List.mem_append.1 hx with hx | hx
  · exact (h.row.tags x hx).grown h.row.own hg
  · obtain rfl : x = s := by simpa using hx
    exact hs.grown h.row.own hg
theorem St.start {B : Nat} {w0 w : World} {u v2 v3 : Value} {es es2 es3 : List Sl} {w2 : World} (h : TR w0 B u es) (hb : Below w0.heap.size w0 w) (h2 : TR w2 w0.heap.size v2 es2) (hb2 : Below w2.heap.size w2 w) (h3 : TR w w2.heap.size v3 es3) (hz : w0.heap.size ≤ w2.heap.size) : St B w u v2 v3 es es2 es3 := by
  refine ⟨h.below hb, (h2.below hb2).mono (Nat.zero_le _), h3.mono (Nat.zero_le _), ?_, ?_⟩
  · cases hv : v2.ownBlock with
    | none => exact .inl rfl
    | some g =>
      right
      intro e
      have h4 := own_ge1 h2.own g hv
      have h5 := h.own.block_lt g e.symm
      omega
  · cases hv : v3.ownBlock with
    | none => exact .inl rfl
    | some g =>
      right
      intro e
      have h4 := own_ge1 h3.own g hv
      have h5 := h.own.block_lt g e.symm
      omega

end Go.Proofs.Ytconegligedniaa
