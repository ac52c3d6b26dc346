/-
  package hands: a whole step of a hand: what is told of its deeds, in a row of its own.
-/
import Derived.Test.YtfmdpmebllepeaaJNextO
import Derived.Test.YtfmdpmebllepeaaJNextL
import Derived.Test.YtfmdpmebllepeaaJNextM
import Derived.Deep.AppendLies
import Derived.Deep.RegionLaw
import Derived.Shelf.Abstract
namespace Go.Proofs.Ytfmdpmebllepeaa
open Go.RowKit

/-- the four ways, as plain steps -/
def alg : Nat → Alg
  | 1 => aOver
  | 2 => aLazy
  | 3 => aMark
  | _ => aNaive
/-- what must hold of the list and the hand ahead of its step -/
structure JC (al : Nat) (s : Bs) (lk : Nat → Bool) (q : Hd) (kd K : Int) : Prop where
  d : Dee kd K
  lk0 : lk s.sz = false
  c : (al = 1 ∧ Cor1 s ∧ KI s q K) ∨ (al = 2 ∧ Cor s ∧ ∃ g, LI s q kd K g) ∨ (al = 3 ∧ Cor s ∧ ∃ g, MI s q kd K g) ∨ (al = 4 ∧ NCor s ∧ NI s q kd K)
section
variable {base B nh v : Nat} {kd K : Int} {ad : Nat → Nat} {s : Bs} {lk : Nat → Bool} {hs : Nat → Nat → Value} {hm : Nat → Value} {w : World} {q : Hd} {al : Nat}
theorem next_any (h : ST base B nh v kd K ad s lk hs hm w) (hn : NX al w (.pointer (some ⟨B, v * 9, none⟩)) q.at_ kd (hm 7)) (h3 : hm 3 = fWay al) (h4 : hm 4 = jp (ad 0)) (hpc : q.at_ ≠ 0 → hm 5 = jp (ad q.p) ∧ hm 6 = jp (ad q.c)) (hj : JC al s lk q kd K) :
    ∃ k caps, hm 7 = .func (.func k) #[] caps ∧ Calls Try.prog k caps w (RetC base B nh v kd K ad s.sz hs hm al ((alg al).step s lk q kd K) w) := by
  rcases hj.c with ⟨rfl, a, b⟩ | ⟨rfl, a, g, b⟩ | ⟨rfl, a, g, b⟩ | ⟨rfl, a, b⟩
  · exact next_over h (hn.1 rfl) h4 hpc a b hj.d hj.lk0
  · exact next_lazy h (hn.2.1 rfl) h3 h4 hpc a b hj.d hj.lk0
  · exact next_mark h (hn.2.2.1 rfl) h3 h4 hpc a b hj.d hj.lk0
  · exact next_naive h (hn.2.2.2 rfl) h4 hpc a b hj.d hj.lk0
theorem entJ {k : Nat} (h : k ∈ [43, 46, 47, 56, 57, 59, 60, 63, 64, 65, 66, 68, 69, 78, 79]) : ∀ args w, (callFunc k args).run Try.prog w = .ok (.enter k args) w := by
  simp only [List.mem_cons, List.not_mem_nil, or_false] at h
  rcases h with rfl | rfl | rfl | rfl | rfl | rfl | rfl | rfl | rfl | rfl | rfl | rfl | rfl | rfl | rfl
  · exact enters_of Try.func43 (by kernel_rfl) rfl
  · exact enters_of Try.func46 (by kernel_rfl) rfl
  · exact enters_of Try.func47 (by kernel_rfl) rfl
  · exact enters_of Try.func56 (by kernel_rfl) rfl
  · exact enters_of Try.func57 (by kernel_rfl) rfl
  · exact enters_of Try.func59 (by kernel_rfl) rfl
  · exact enters_of Try.func60 (by kernel_rfl) rfl
  · exact enters_of Try.func63 (by kernel_rfl) rfl
  · exact enters_of Try.func64 (by kernel_rfl) rfl
  · exact enters_of Try.func65 (by kernel_rfl) rfl
  · exact enters_of Try.func66 (by kernel_rfl) rfl
  · exact enters_of Try.func68 (by kernel_rfl) rfl
  · exact enters_of Try.func69 (by kernel_rfl) rfl
  · exact enters_of Try.func78 (by kernel_rfl) rfl
  · exact enters_of Try.func79 (by kernel_rfl) rfl
theorem NX.func {P : Value} {at_ : Nat} {f : Value} (hal : al = 1 ∨ al = 2 ∨ al = 3 ∨ al = 4) (h : NX al w P at_ kd f) : ∃ k caps, f = .func (.func k) #[] caps ∧ ∀ args w, (callFunc k args).run Try.prog w = .ok (.enter k args) w := by
  rcases hal with rfl | rfl | rfl | rfl
  · obtain ⟨hb, lb, ob, _, rfl⟩ := h.1 rfl
    split
    · exact ⟨_, _, rfl, entJ (by decide)⟩
    · split <;> exact ⟨_, _, rfl, entJ (by decide)⟩
  · obtain ⟨hb, wb, lb, ob, ub, _, rfl⟩ := h.2.1 rfl
    split
    · exact ⟨_, _, rfl, entJ (by decide)⟩
    · split
      · exact ⟨_, _, rfl, entJ (by decide)⟩
      · split
        · exact ⟨_, _, rfl, entJ (by decide)⟩
        · split <;> exact ⟨_, _, rfl, entJ (by decide)⟩
  · obtain ⟨gb, ub, hb, ab, cb, lb, _, rfl⟩ := h.2.2.1 rfl
    split
    · exact ⟨_, _, rfl, entJ (by decide)⟩
    · split
      · exact ⟨_, _, rfl, entJ (by decide)⟩
      · split
        · split <;> exact ⟨_, _, rfl, entJ (by decide)⟩
        · exact ⟨_, _, rfl, entJ (by decide)⟩
  · obtain ⟨gb, hb, ab, cb, lb, _, rfl⟩ := h.2.2.2 rfl
    split
    · exact ⟨_, _, rfl, entJ (by decide)⟩
    · split
      · exact ⟨_, _, rfl, entJ (by decide)⟩
      · split <;> exact ⟨_, _, rfl, entJ (by decide)⟩
theorem JC.is_al (h : JC al s lk q kd K) : al = 1 ∨ al = 2 ∨ al = 3 ∨ al = 4 := by
  rcases h.c with ⟨e, _⟩ | ⟨e, _⟩ | ⟨e, _⟩ | ⟨e, _⟩
  · exact .inl e
  · exact .inr (.inl e)
  · exact .inr (.inr (.inl e))
  · exact .inr (.inr (.inr e))
end

/- what is told -/
def dcells (d : Dn) : List Value := [I d.w, I d.j, I d.b, I d.e, .bool d.is_]
def flatD : List Dn → List Value
  | [] => []
  | d :: t => dcells d ++ flatD t
theorem flatD_length (l : List Dn) : (flatD l).length = l.length * 5 := by induction l <;> simp [flatD, dcells, *]; omega
theorem flatD_append (l m : List Dn) : flatD (l ++ m) = flatD l ++ flatD m := by induction l <;> simp [flatD, *]
theorem flatD_at (l : List Dn) (i k : Nat) (h : i < l.length) (hk : k < 5) : (flatD l)[i * 5 + k]? = (dcells l[i])[k]? := by
  induction l generalizing i with
  | nil => simp at h
  | cons p t ih => cases i with
    | zero =>
      show (dcells p ++ flatD t)[0 * 5 + k]? = (dcells p)[k]?
      rw [Nat.zero_mul, Nat.zero_add, List.getElem?_append_left (by show k < 5; exact hk)]
    | succ i =>
      show (dcells p ++ flatD t)[(i + 1) * 5 + k]? = _
      rw [List.getElem?_append_right (by show 5 ≤ _; omega)]
      have := ih i (by simpa using h)
      rw [show (i + 1) * 5 + k - (dcells p).length = i * 5 + k by show _ - 5 = _; omega]
      simpa using this
theorem flatD_last (l : List Dn) (d : Dn) (e : Int) (b : Bool) : ((flatD (l ++ [d])).set (l.length * 5 + 3) (I e)).set (l.length * 5 + 4) (.bool b) = flatD (l ++ [⟨d.w, d.j, d.b, e, b⟩]) := by
  rw [flatD_append, flatD_append, ← flatD_length]
  simp [List.set_append, flatD, dcells]
abbrev DT : Nat := 37
/-- a row of what is told, of the call's own -/
def OwnD (w : World) (base : Nat) (v : Value) (L : List Dn) : Prop := w.ownsRow base 37 5 v L.length (flatD L)
theorem OwnD.blk {w : World} {base : Nat} {v : Value} {L : List Dn} (h : OwnD w base v L) {g : Nat} (hg : v.ownBlock = some g) : ∃ cs, w.heap[g]? = some (.cells cs 37 (0, 0)) ∧ base ≤ g := by
  rcases h.2 with ⟨rfl, _⟩ | ⟨g', cap, cur, rfl, h2, h3, _⟩
  · simp [Value.ownBlock] at hg
  · simp [Value.ownBlock] at hg
    subst hg
    exact ⟨cur, h3, h2⟩
theorem OwnD.is_ {w : World} {base : Nat} {v : Value} {L : List Dn} (h : OwnD w base v L) : ∃ A c, v = .slice A L.length c ∧ (L.length = 0 ∨ ∃ g, A = some ⟨g, 0, none⟩) := by
  rcases h.2 with ⟨rfl, h0⟩ | ⟨g, cap, cur, rfl, _⟩
  · exact ⟨none, 0, by rw [h0], .inl h0⟩
  · exact ⟨_, cap, rfl, .inr ⟨g, rfl⟩⟩
theorem OwnD.keep {w w' : World} {base : Nat} {v : Value} {L : List Dn} (h : OwnD w base v L) (hk : ∀ g, v.ownBlock = some g → w'.heap[g]? = w.heap[g]?) : OwnD w' base v L := by
  refine ⟨h.1, ?_⟩
  rcases h.2 with h0 | ⟨g, cap, cur, rfl, h2, h3, h4⟩
  · exact .inl h0
  · exact .inr ⟨g, cap, cur, rfl, h2, (hk g rfl).trans h3, h4⟩
theorem OwnD.keepP {w w' : World} {base : Nat} {v : Value} {L : List Dn} (h : OwnD w base v L) (hp : JP base w w') : OwnD w' base v L := h.keep fun g hg => by
  obtain ⟨cs, h1, _⟩ := h.blk hg
  rw [h1]
  exact hp.kp g _ _ _ h1 (by decide) (by decide)
theorem OwnD.nil (w : World) (base : Nat) : OwnD w base (.slice none 0 0) [] := ⟨rfl, .inl ⟨rfl, rfl⟩⟩
/-- the last one has its end -/
theorem OwnD.ended {w : World} {base : Nat} {g n c : Nat} {L : List Dn} {d : Dn} (h : OwnD w base (.slice (some ⟨g, 0, none⟩) n c) (L ++ [d])) (e : Int) (b : Bool) :
    OwnD ((w.setCell ⟨g, L.length * 5 + 3, none⟩ (I e)).setCell ⟨g, L.length * 5 + 4, none⟩ (.bool b)) base (.slice (some ⟨g, 0, none⟩) n c) (L ++ [⟨d.w, d.j, d.b, e, b⟩]) := by
  have hn : n = (L ++ [d]).length := by rcases h.2 with ⟨h0, _⟩ | ⟨_, _, _, h0, _⟩ <;> cases h0; rfl
  have hl : (L ++ [d]).length = L.length + 1 := by simp
  have hl2 : (L ++ [(⟨d.w, d.j, d.b, e, b⟩ : Dn)]).length = L.length + 1 := by simp
  refine ⟨flatD_length _, ?_⟩
  rcases h.2 with ⟨h0, _⟩ | ⟨g', cap, cur, h0, h2, h3, h4, h5, h6, h7⟩
  · cases h0
  · cases h0
    refine .inr ⟨g, c, (cur.setIfInBounds (L.length * 5 + 3) (I e)).setIfInBounds (L.length * 5 + 4) (.bool b), by rw [hl, hl2], h2, ?_, by rw [hl2, ← hl]; exact h4, h5, by simp [h6], ?_⟩
    · exact jset_at (jset_at h3)
    · rw [hl2, ← hl, ← flatD_last L d e b, ← h7]
      simp [List.take_set]
theorem OwnD.last {w : World} {base : Nat} {g n c : Nat} {L : List Dn} {d : Dn} (h : OwnD w base (.slice (some ⟨g, 0, none⟩) n c) (L ++ [d])) :
    n = L.length + 1 ∧ w.cell? ⟨g, L.length * 5 + 3, none⟩ = some (I d.e) ∧ w.cell? ⟨g, L.length * 5 + 4, none⟩ = some (.bool d.is_) ∧ (∀ k, w.frozen? ⟨g, k, none⟩ = false) := by
  have hn : n = (L ++ [d]).length := by rcases h.2 with ⟨h0, _⟩ | ⟨_, _, _, h0, _⟩ <;> cases h0; rfl
  have hl : (L ++ [d]).length = L.length + 1 := by simp
  rcases h.2 with ⟨h0, _⟩ | ⟨g', cap, cur, h0, h2, h3, h4, h5, h6, h7⟩
  · cases h0
  · cases h0
    have hc : ∀ k, k < 5 → w.cell? ⟨g, L.length * 5 + k, none⟩ = (dcells d)[k]? := fun k hk => by
      rw [jcell h3]
      have h8 := flatD_at (L ++ [d]) L.length k (by omega) hk
      rw [← h7, List.getElem?_take, if_pos (by omega)] at h8
      simpa using h8
    exact ⟨by omega, hc 3 (by omega), hc 4 (by omega), fun k => jfroz h3⟩

/-- what a whole step leaves as it is -/
structure JQ (base : Nat) (row : Option Nat) (w w' : World) : Prop where
  kp : ∀ (g : Nat) (cs : Array Value) (t : Nat) (f : Nat × Nat), w.heap[g]? = some (Obj.cells cs t f) → t ≠ 86 → t ≠ 74 → (t = 37 → row ≠ some g) → w'.heap[g]? = some (Obj.cells cs t f)
  bl : Below base w w'
theorem JP.q {base : Nat} {w w' : World} (h : JP base w w') (row : Option Nat) : JQ base row w w' := ⟨fun g cs t f a b c _ => h.kp g cs t f a b c, h.bl⟩
theorem JQ.trans {base : Nat} {row row1 : Option Nat} {w w1 w2 : World} (h : JQ base row w w1) (h2 : JQ base row1 w1 w2) (hr : row1 = row ∨ ∀ g, row1 = some g → w.heap.size ≤ g) : JQ base row w w2 :=
  ⟨fun g cs t f a b c d => h2.kp g cs t f (h.kp g cs t f a b c d) b c (fun e e2 => by
    rcases hr with hr | hr
    · exact d e (by rw [← hr]; exact e2)
    · have := hr g e2
      have := jblk a
      omega), h.bl.trans h2.bl⟩
theorem HBox.keepQ {base : Nat} {row : Option Nat} {w w' : World} {g : Nat} {x : Value} (h : HBox w g x) (hp : JQ base row w w') : HBox w' g x := hp.kp g _ _ _ h (by decide) (by decide) (fun e => absurd e (by decide))
theorem FBox.keepQ {base : Nat} {row : Option Nat} {w w' : World} {g : Nat} {x : Value} (h : FBox w g x) (hp : JQ base row w w') : FBox w' g x := hp.kp g _ _ _ h (by decide) (by decide) (fun e => absurd e (by decide))
theorem NX.keepQ {al base : Nat} {row : Option Nat} {w w' : World} {P : Value} {at_ : Nat} {kd : Int} {f : Value} (h : NX al w P at_ kd f) (hp : JQ base row w w') : NX al w' P at_ kd f := by
  refine ⟨fun e => ?_, fun e => ?_, fun e => ?_, fun e => ?_⟩
  · obtain ⟨hb, lb, ob, a, b⟩ := h.1 e; exact ⟨hb, lb, ob, ⟨a.h.keepQ hp, a.l.keepQ hp, a.o.keepQ hp⟩, b⟩
  · obtain ⟨hb, wb, lb, ob, ub, a, b⟩ := h.2.1 e; exact ⟨hb, wb, lb, ob, ub, ⟨a.h.keepQ hp, a.k.keepQ hp, a.l.keepQ hp, a.o.keepQ hp, a.u.keepQ hp⟩, b⟩
  · obtain ⟨gb, ub, hb, ab, cb, lb, a, b⟩ := h.2.2.1 e; exact ⟨gb, ub, hb, ab, cb, lb, ⟨a.g.keepQ hp, a.u.keepQ hp, ⟨a.e.h.keepQ hp, a.e.a.keepQ hp, a.e.c.keepQ hp, a.e.l.keepQ hp⟩⟩, b⟩
  · obtain ⟨gb, hb, ab, cb, lb, a, b⟩ := h.2.2.2 e; exact ⟨gb, hb, ab, cb, lb, ⟨a.g.keepQ hp, ⟨a.e.h.keepQ hp, a.e.a.keepQ hp, a.e.c.keepQ hp, a.e.l.keepQ hp⟩⟩, b⟩
theorem OwnD.keepQ {w w' : World} {base : Nat} {row : Option Nat} {v : Value} {L : List Dn} (h : OwnD w base v L) (hp : JQ base row w w') (hr : ∀ g, v.ownBlock = some g → row ≠ some g) : OwnD w' base v L := h.keep fun g hg => by
  obtain ⟨cs, h1, _⟩ := h.blk hg
  rw [h1]
  exact hp.kp g _ _ _ h1 (by decide) (by decide) (fun _ => hr g hg)
/-- a block of what is told is changed -/
theorem JQ.row {base : Nat} {w : World} {g : Nat} {C : Array Value} (hg : w.heap[g]? = some (.cells C 37 (0, 0))) (hb : base ≤ g) (k : Nat) (v : Value) : JQ base (some g) w (w.setCell ⟨g, k, none⟩ v) :=
  ⟨fun g' cs t f a b c d => by
    have hne : g' ≠ g := fun e => by
      rw [e] at a d
      rw [hg] at a
      injection a with a
      injection a with _ a
      exact d a.symm rfl
    rw [Below.heap_setCell _ _ _ _ hne]
    exact a, (Below.refl _ _).setCell (p := ⟨g, k, none⟩) hb v⟩
/-- a row grows -/
theorem JQ.grown {base : Nat} {w w' : World} {row : Option Nat} (h : w.grownBy w' row) (hb : base ≤ w.heap.size) (hr : ∀ g, row = some g → base ≤ g ∧ ∃ C, w.heap[g]? = some (.cells C 37 (0, 0))) : JQ base row w w' :=
  ⟨fun g' cs t f a b c d => by
    rw [h.block g' (jblk a) (fun e => by
      obtain ⟨_, C, hC⟩ := hr g' e.symm
      rw [hC] at a
      injection a with a
      injection a with _ a
      exact d a.symm e.symm)]
    exact a, (Below.refl _ _).grown h hb (fun k e => (hr k e).1)⟩

end Go.Proofs.Ytfmdpmebllepeaa
