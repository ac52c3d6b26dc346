/-
  Joined texts: YtfmdpmebllepeaaJStepS, YtfmdpmebllepeaaJStep, YtfmdpmebllepeaaJStepN, YtfmdpmebllepeaaJGo, YtfmdpmebllepeaaJRun1, YtfmdpmebllepeaaUInv.
-/
import Derived.Test.YtfmdpmebllepeaaJNextLAll
import Derived.Test.YtfmdpmebllepeaaJNextMAll
import Derived.Deep.AppendLies
import Derived.Deep.RegionLaw
import Derived.Shelf.Abstract
import Derived.Test.YtfmdpmebllepeaaMTimeMAll
/-
  package hands: a whole step of a hand: what is told of its deeds, in a row of its own.
-/
namespace Go.Proofs.Ytfmdpmebllepeaa
open Go.RowKit

def alg : Nat → Alg
  | 1 => aOver
  | 2 => aLazy
  | 3 => aMark
  | _ => aNaive
structure JC (al : Nat) (s : Bs) (lk : Nat → Bool) (q : Hd) (kd K : Int) : Prop where
  d : Dee kd K
  lk0 : lk s.sz = false
  c : (al = 1 ∧ Cor1 s ∧ KI s q K) ∨ (al = 2 ∧ Cor s ∧ ∃ g, LI s q kd K g) ∨ (al = 3 ∧ Cor s ∧ ∃ g, MI s q kd K g) ∨ (al = 4 ∧ NCor s ∧ NI s q kd K)
section
variable {base B nh v : Nat} {kd K : Int} {ad : Nat → Nat} {s : Bs} {lk : Nat → Bool} {hs : Nat → Nat → Value} {hm : Nat → Value} {w : World} {q : Hd} {al : Nat}
theorem next_any (h : ST base B nh v kd K ad s lk hs hm w) (hn : NX al w (.pointer (some ⟨B, v * 9, none⟩)) q.at_ kd (hm 7)) (h3 : hm 3 = fWay al) (h4 : hm 4 = jp (ad 0)) (hpc : q.at_ ≠ 0 → hm 5 = jp (ad q.p) ∧ hm 6 = jp (ad q.c)) (hj : JC al s lk q kd K) :
    ∃ k caps, hm 7 = .func (.func k) #[] caps ∧ Calls Try.prog k caps w (RetC base B nh v kd K ad s.sz hs hm al ((alg al).step s lk q kd K) w) := by
  rcases hj.c with ⟨rfl, a, b⟩ | ⟨rfl, a, g, b⟩ | ⟨rfl, a, g, b⟩ | ⟨rfl, a, b⟩
  · exact next_over h (hn.1 rfl) h4 hpc a b hj.d hj.lk0
  · exact next_lazy h (hn.2.1 rfl) h3 h4 hpc a b hj.d hj.lk0
  · exact next_mark h (hn.2.2.1 rfl) h3 h4 hpc a b hj.d hj.lk0
  · exact next_naive h (hn.2.2.2 rfl) h4 hpc a b hj.d hj.lk0
theorem entJ {k : Nat} (h : k ∈ [43, 46, 47, 56, 57, 59, 60, 63, 64, 65, 66, 68, 69, 78, 79]) : ∀ args w, (callFunc k args).run Try.prog w = .ok (.enter k args) w := by
  simp only [List.mem_cons, List.not_mem_nil, or_false] at h
  rcases h with rfl | rfl | rfl | rfl | rfl | rfl | rfl | rfl | rfl | rfl | rfl | rfl | rfl | rfl | rfl
  · exact enters_of Try.func43 (by kernel_rfl) rfl
  · exact enters_of Try.func46 (by kernel_rfl) rfl
  · exact enters_of Try.func47 (by kernel_rfl) rfl
  · exact enters_of Try.func56 (by kernel_rfl) rfl
  · exact enters_of Try.func57 (by kernel_rfl) rfl
  · exact enters_of Try.func59 (by kernel_rfl) rfl
  · exact enters_of Try.func60 (by kernel_rfl) rfl
  · exact enters_of Try.func63 (by kernel_rfl) rfl
  · exact enters_of Try.func64 (by kernel_rfl) rfl
  · exact enters_of Try.func65 (by kernel_rfl) rfl
  · exact enters_of Try.func66 (by kernel_rfl) rfl
  · exact enters_of Try.func68 (by kernel_rfl) rfl
  · exact enters_of Try.func69 (by kernel_rfl) rfl
  · exact enters_of Try.func78 (by kernel_rfl) rfl
  · exact enters_of Try.func79 (by kernel_rfl) rfl
theorem NX.func {P : Value} {at_ : Nat} {f : Value} (hal : al = 1 ∨ al = 2 ∨ al = 3 ∨ al = 4) (h : NX al w P at_ kd f) : ∃ k caps, f = .func (.func k) #[] caps ∧ ∀ args w, (callFunc k args).run Try.prog w = .ok (.enter k args) w := by
  rcases hal with rfl | rfl | rfl | rfl
  · obtain ⟨hb, lb, ob, _, rfl⟩ := h.1 rfl
    split
    · exact ⟨_, _, rfl, entJ (by decide)⟩
    · split <;> exact ⟨_, _, rfl, entJ (by decide)⟩
  · obtain ⟨hb, wb, lb, ob, ub, _, rfl⟩ := h.2.1 rfl
    split
    · exact ⟨_, _, rfl, entJ (by decide)⟩
    · split
      · exact ⟨_, _, rfl, entJ (by decide)⟩
      · split
        · exact ⟨_, _, rfl, entJ (by decide)⟩
        · split <;> exact ⟨_, _, rfl, entJ (by decide)⟩
  · obtain ⟨gb, ub, hb, ab, cb, lb, _, rfl⟩ := h.2.2.1 rfl
    split
    · exact ⟨_, _, rfl, entJ (by decide)⟩
    · split
      · exact ⟨_, _, rfl, entJ (by decide)⟩
      · split
        · split <;> exact ⟨_, _, rfl, entJ (by decide)⟩
        · exact ⟨_, _, rfl, entJ (by decide)⟩
  · obtain ⟨gb, hb, ab, cb, lb, _, rfl⟩ := h.2.2.2 rfl
    split
    · exact ⟨_, _, rfl, entJ (by decide)⟩
    · split
      · exact ⟨_, _, rfl, entJ (by decide)⟩
      · split <;> exact ⟨_, _, rfl, entJ (by decide)⟩
theorem JC.is_al (h : JC al s lk q kd K) : al = 1 ∨ al = 2 ∨ al = 3 ∨ al = 4 := by
  rcases h.c with ⟨e, _⟩ | ⟨e, _⟩ | ⟨e, _⟩ | ⟨e, _⟩
  · exact .inl e
  · exact .inr (.inl e)
  · exact .inr (.inr (.inl e))
  · exact .inr (.inr (.inr e))
end

def dcells (d : Dn) : List Value := [I d.w, I d.j, I d.b, I d.e, .bool d.is_]
def flatD : List Dn → List Value
  | [] => []
  | d :: t => dcells d ++ flatD t
theorem flatD_length (l : List Dn) : (flatD l).length = l.length * 5 := by induction l <;> simp [flatD, dcells, *]; omega
theorem flatD_append (l m : List Dn) : flatD (l ++ m) = flatD l ++ flatD m := by induction l <;> simp [flatD, *]
theorem flatD_at (l : List Dn) (i k : Nat) (h : i < l.length) (hk : k < 5) : (flatD l)[i * 5 + k]? = (dcells l[i])[k]? := by
  induction l generalizing i with
  | nil => simp at h
  | cons p t ih => cases i with
    | zero =>
      show (dcells p ++ flatD t)[0 * 5 + k]? = (dcells p)[k]?
      rw [Nat.zero_mul, Nat.zero_add, List.getElem?_append_left (by show k < 5; exact hk)]
    | succ i =>
      show (dcells p ++ flatD t)[(i + 1) * 5 + k]? = _
      rw [List.getElem?_append_right (by show 5 ≤ _; omega)]
      have := ih i (by simpa using h)
      rw [show (i + 1) * 5 + k - (dcells p).length = i * 5 + k by show _ - 5 = _; omega]
      simpa using this
theorem flatD_last (l : List Dn) (d : Dn) (e : Int) (b : Bool) : ((flatD (l ++ [d])).set (l.length * 5 + 3) (I e)).set (l.length * 5 + 4) (.bool b) = flatD (l ++ [⟨d.w, d.j, d.b, e, b⟩]) := by
  rw [flatD_append, flatD_append, ← flatD_length]
  simp [List.set_append, flatD, dcells]
def OwnD (w : World) (base : Nat) (v : Value) (L : List Dn) : Prop := w.ownsRow base 37 5 v L.length (flatD L)
theorem OwnD.blk {w : World} {base : Nat} {v : Value} {L : List Dn} (h : OwnD w base v L) {g : Nat} (hg : v.ownBlock = some g) : ∃ cs, w.heap[g]? = some (.cells cs 37 (0, 0)) ∧ base ≤ g := by
  rcases h.2 with ⟨rfl, _⟩ | ⟨g', cap, cur, rfl, h2, h3, _⟩
  · simp [Value.ownBlock] at hg
  · simp [Value.ownBlock] at hg
    subst hg
    exact ⟨cur, h3, h2⟩
theorem OwnD.is_ {w : World} {base : Nat} {v : Value} {L : List Dn} (h : OwnD w base v L) : ∃ A c, v = .slice A L.length c ∧ (L.length = 0 ∨ ∃ g, A = some ⟨g, 0, none⟩) := by
  rcases h.2 with ⟨rfl, h0⟩ | ⟨g, cap, cur, rfl, _⟩
  · exact ⟨none, 0, by rw [h0], .inl h0⟩
  · exact ⟨_, cap, rfl, .inr ⟨g, rfl⟩⟩
theorem OwnD.keep {w w' : World} {base : Nat} {v : Value} {L : List Dn} (h : OwnD w base v L) (hk : ∀ g, v.ownBlock = some g → w'.heap[g]? = w.heap[g]?) : OwnD w' base v L := by
  refine ⟨h.1, ?_⟩
  rcases h.2 with h0 | ⟨g, cap, cur, rfl, h2, h3, h4⟩
  · exact .inl h0
  · exact .inr ⟨g, cap, cur, rfl, h2, (hk g rfl).trans h3, h4⟩
theorem OwnD.keepP {w w' : World} {base : Nat} {v : Value} {L : List Dn} (h : OwnD w base v L) (hp : JP base w w') : OwnD w' base v L := h.keep fun g hg => by
  obtain ⟨cs, h1, _⟩ := h.blk hg
  rw [h1]
  exact hp.kp g _ _ _ h1 (by decide) (by decide)
theorem OwnD.nil (w : World) (base : Nat) : OwnD w base (.slice none 0 0) [] := ⟨rfl, .inl ⟨rfl, rfl⟩⟩
theorem OwnD.ended {w : World} {base : Nat} {g n c : Nat} {L : List Dn} {d : Dn} (h : OwnD w base (.slice (some ⟨g, 0, none⟩) n c) (L ++ [d])) (e : Int) (b : Bool) :
    OwnD ((w.setCell ⟨g, L.length * 5 + 3, none⟩ (I e)).setCell ⟨g, L.length * 5 + 4, none⟩ (.bool b)) base (.slice (some ⟨g, 0, none⟩) n c) (L ++ [⟨d.w, d.j, d.b, e, b⟩]) := by
  have hn : n = (L ++ [d]).length := by rcases h.2 with ⟨h0, _⟩ | ⟨_, _, _, h0, _⟩ <;> cases h0; rfl
  have hl : (L ++ [d]).length = L.length + 1 := by simp
  have hl2 : (L ++ [(⟨d.w, d.j, d.b, e, b⟩ : Dn)]).length = L.length + 1 := by simp
  refine ⟨flatD_length _, ?_⟩
  rcases h.2 with ⟨h0, _⟩ | ⟨g', cap, cur, h0, h2, h3, h4, h5, h6, h7⟩
  · cases h0
  · cases h0
    refine .inr ⟨g, c, (cur.setIfInBounds (L.length * 5 + 3) (I e)).setIfInBounds (L.length * 5 + 4) (.bool b), by rw [hl, hl2], h2, ?_, by rw [hl2, ← hl]; exact h4, h5, by simp [h6], ?_⟩
    · exact jset_at (jset_at h3)
    · rw [hl2, ← hl, ← flatD_last L d e b, ← h7]
      simp [List.take_set]
theorem OwnD.last {w : World} {base : Nat} {g n c : Nat} {L : List Dn} {d : Dn} (h : OwnD w base (.slice (some ⟨g, 0, none⟩) n c) (L ++ [d])) :
    n = L.length + 1 ∧ w.cell? ⟨g, L.length * 5 + 3, none⟩ = some (I d.e) ∧ w.cell? ⟨g, L.length * 5 + 4, none⟩ = some (.bool d.is_) ∧ (∀ k, w.frozen? ⟨g, k, none⟩ = false) := by
  have hn : n = (L ++ [d]).length := by rcases h.2 with ⟨h0, _⟩ | ⟨_, _, _, h0, _⟩ <;> cases h0; rfl
  have hl : (L ++ [d]).length = L.length + 1 := by simp
  rcases h.2 with ⟨h0, _⟩ | ⟨g', cap, cur, h0, h2, h3, h4, h5, h6, h7⟩
  · cases h0
  · cases h0
    have hc : ∀ k, k < 5 → w.cell? ⟨g, L.length * 5 + k, none⟩ = (dcells d)[k]? := fun k hk => by
      rw [jcell h3]
      have h8 := flatD_at (L ++ [d]) L.length k (by omega) hk
      rw [← h7, List.getElem?_take, if_pos (by omega)] at h8
      simpa using h8
    exact ⟨by omega, hc 3 (by omega), hc 4 (by omega), fun k => jfroz h3⟩

structure JQ (base : Nat) (row : Option Nat) (w w' : World) : Prop where
  kp : ∀ (g : Nat) (cs : Array Value) (t : Nat) (f : Nat × Nat), w.heap[g]? = some (Obj.cells cs t f) → t ≠ 86 → t ≠ 74 → (t = 37 → row ≠ some g) → w'.heap[g]? = some (Obj.cells cs t f)
  bl : Below base w w'
theorem JP.q {base : Nat} {w w' : World} (h : JP base w w') (row : Option Nat) : JQ base row w w' := ⟨fun g cs t f a b c _ => h.kp g cs t f a b c, h.bl⟩
theorem JQ.trans {base : Nat} {row row1 : Option Nat} {w w1 w2 : World} (h : JQ base row w w1) (h2 : JQ base row1 w1 w2) (hr : row1 = row ∨ ∀ g, row1 = some g → w.heap.size ≤ g) : JQ base row w w2 :=
  ⟨fun g cs t f a b c d => h2.kp g cs t f (h.kp g cs t f a b c d) b c (fun e e2 => by
    rcases hr with hr | hr
    · exact d e (by rw [← hr]; exact e2)
    · have := hr g e2
      have := jblk a
      omega), h.bl.trans h2.bl⟩
theorem HBox.keepQ {base : Nat} {row : Option Nat} {w w' : World} {g : Nat} {x : Value} (h : HBox w g x) (hp : JQ base row w w') : HBox w' g x := hp.kp g _ _ _ h (by decide) (by decide) (fun e => absurd e (by decide))
theorem FBox.keepQ {base : Nat} {row : Option Nat} {w w' : World} {g : Nat} {x : Value} (h : FBox w g x) (hp : JQ base row w w') : FBox w' g x := hp.kp g _ _ _ h (by decide) (by decide) (fun e => absurd e (by decide))
theorem NX.keepQ {al base : Nat} {row : Option Nat} {w w' : World} {P : Value} {at_ : Nat} {kd : Int} {f : Value} (h : NX al w P at_ kd f) (hp : JQ base row w w') : NX al w' P at_ kd f := by
  refine ⟨fun e => ?_, fun e => ?_, fun e => ?_, fun e => ?_⟩
  · obtain ⟨hb, lb, ob, a, b⟩ := h.1 e; exact ⟨hb, lb, ob, ⟨a.h.keepQ hp, a.l.keepQ hp, a.o.keepQ hp⟩, b⟩
  · obtain ⟨hb, wb, lb, ob, ub, a, b⟩ := h.2.1 e; exact ⟨hb, wb, lb, ob, ub, ⟨a.h.keepQ hp, a.k.keepQ hp, a.l.keepQ hp, a.o.keepQ hp, a.u.keepQ hp⟩, b⟩
  · obtain ⟨gb, ub, hb, ab, cb, lb, a, b⟩ := h.2.2.1 e; exact ⟨gb, ub, hb, ab, cb, lb, ⟨a.g.keepQ hp, a.u.keepQ hp, ⟨a.e.h.keepQ hp, a.e.a.keepQ hp, a.e.c.keepQ hp, a.e.l.keepQ hp⟩⟩, b⟩
  · obtain ⟨gb, hb, ab, cb, lb, a, b⟩ := h.2.2.2 e; exact ⟨gb, hb, ab, cb, lb, ⟨a.g.keepQ hp, ⟨a.e.h.keepQ hp, a.e.a.keepQ hp, a.e.c.keepQ hp, a.e.l.keepQ hp⟩⟩, b⟩
theorem OwnD.keepQ {w w' : World} {base : Nat} {row : Option Nat} {v : Value} {L : List Dn} (h : OwnD w base v L) (hp : JQ base row w w') (hr : ∀ g, v.ownBlock = some g → row ≠ some g) : OwnD w' base v L := h.keep fun g hg => by
  obtain ⟨cs, h1, _⟩ := h.blk hg
  rw [h1]
  exact hp.kp g _ _ _ h1 (by decide) (by decide) (fun _ => hr g hg)
theorem JQ.row {base : Nat} {w : World} {g : Nat} {C : Array Value} (hg : w.heap[g]? = some (.cells C 37 (0, 0))) (hb : base ≤ g) (k : Nat) (v : Value) : JQ base (some g) w (w.setCell ⟨g, k, none⟩ v) :=
  ⟨fun g' cs t f a b c d => by
    have hne : g' ≠ g := fun e => by
      rw [e] at a d
      rw [hg] at a
      injection a with a
      injection a with _ a
      exact d a.symm rfl
    rw [Below.heap_setCell _ _ _ _ hne]
    exact a, (Below.refl _ _).setCell (p := ⟨g, k, none⟩) hb v⟩
theorem JQ.grown {base : Nat} {w w' : World} {row : Option Nat} (h : w.grownBy w' row) (hb : base ≤ w.heap.size) (hr : ∀ g, row = some g → base ≤ g ∧ ∃ C, w.heap[g]? = some (.cells C 37 (0, 0))) : JQ base row w w' :=
  ⟨fun g' cs t f a b c d => by
    rw [h.block g' (jblk a) (fun e => by
      obtain ⟨_, C, hC⟩ := hr g' e.symm
      rw [hC] at a
      injection a with a
      injection a with _ a
      exact d a.symm e.symm)]
    exact a, (Below.refl _ _).grown h hb (fun k e => (hr k e).1)⟩

end Go.Proofs.Ytfmdpmebllepeaa

/-
  package hands: step, of a hand that is at a deed.
-/
namespace Go.Proofs.Ytfmdpmebllepeaa
open Go.RowKit

structure JV (base v : Nat) (prog : PL) (dl : List Dn) (hm : Nat → Value) (w : World) : Prop where
  who : hm 0 = I v
  le : prog.length ≤ 4
  deeds : ∃ A c, hm 1 = .slice A prog.length c ∧ PS w A prog.length c prog ∧ (0 < prog.length → ∀ ad, A = some ad → ad.block < base)
  done : OwnD w base (hm 2) dl
theorem JV.jd {base v : Nat} {prog : PL} {dl : List Dn} {hm : Nat → Value} {w : World} (h : JV base v prog dl hm w) {j : Nat} (hj : j < prog.length) (hl : dl.length = j + 1) : JD base hm prog[j].1 prog[j].2 w := by
  obtain ⟨A, c, h1, h2, h3⟩ := h.deeds
  obtain ⟨b, off, rfl, hb, hc⟩ := h2.at_ (by omega)
  obtain ⟨DA, dc, h4, _⟩ := h.done.is_
  rw [hl] at h4
  exact ⟨b, off, _, c, DA, j, dc, h1, h4, hj, h.le, h3 (by omega) _ rfl, (hc j hj).1, (hc j hj).2⟩
theorem PS.low0 {w w' : World} {base n c : Nat} {A : Option Addr} {l : PL} (h : PS w A n c l) (hA : 0 < n → ∀ ad, A = some ad → ad.block < base) (hb : Below base w w') : PS w' A n c l := by
  rcases Nat.eq_zero_or_pos n with h0 | h0
  · subst h0
    exact ⟨h.len, h.rd.1, fun hn => absurd hn (by omega)⟩
  · exact h.low (hA h0) hb
theorem JV.keepP {base v : Nat} {prog : PL} {dl : List Dn} {hm hm' : Nat → Value} {w w' : World} (h : JV base v prog dl hm w) (hp : JP base w w') (he : ∀ i, i ≤ 4 → hm' i = hm i) : JV base v prog dl hm' w' := by
  obtain ⟨A, c, h1, h2, h3⟩ := h.deeds
  exact ⟨(he 0 (by omega)).trans h.who, h.le, ⟨A, c, (he 1 (by omega)).trans h1, h2.low0 h3 hp.bl, h3⟩, by rw [he 2 (by omega)]; exact h.done.keepP hp⟩
def dnow (r : Rel) (v j b now : Nat) : Dn := ⟨v, j, b, if r.over = true then now else -1, if r.over = true then r.h.is_ else false⟩
def RetS (al base B nh v : Nat) (prog : PL) (dl : List Dn) (j b now : Nat) (kd : Int) (ad : Nat → Nat) (sz : Nat) (hs : Nat → Nat → Value) (hm : Nat → Value) (r : Rel) (w : World) (e : Ending) (w' : World) : Prop :=
  e = .returned (.tuple #[]) ∧ ∃ ad' hm', (∀ i, i < sz → ad' i = ad i) ∧ JS base B nh ad' r.s r.lk (upd hs v hm') w' ∧ JV base v prog (dl ++ [dnow r v j b now]) hm' w' ∧ (hm' 3 = hm 3 ∧ hm' 4 = hm 4) ∧ (r.over = true → hm' 7 = .nilFunc) ∧
    (r.over = false → NX al w' (.pointer (some ⟨B, v * 9, none⟩)) r.h.at_ kd (hm' 7) ∧ (r.h.at_ ≠ 0 → hm' 5 = jp (ad' r.h.p) ∧ hm' 6 = jp (ad' r.h.c))) ∧
    JQ base (hm 2).ownBlock w w' ∧ (∀ g, (hm' 2).ownBlock = some g → (hm 2).ownBlock = some g ∨ w.heap.size ≤ g)
section
variable {base B nh v : Nat} {ad : Nat → Nat} {s : Bs} {lk : Nat → Bool} {hs : Nat → Nat → Value} {hm : Nat → Value} {w : World} {q : Hd} {al : Nat}
theorem JV.same {prog : PL} {dl dl' : List Dn} {hm' : Nat → Value} {w' : World} (h : JV base v prog dl hm w) (he : ∀ i, i ≤ 1 → hm' i = hm i) (hb : Below base w w') (hd : OwnD w' base (hm' 2) dl') : JV base v prog dl' hm' w' := by
  obtain ⟨A, c, h1, h2, h3⟩ := h.deeds
  exact ⟨(he 0 (by omega)).trans h.who, h.le, ⟨A, c, (he 1 (by omega)).trans h1, h2.low0 h3 hb, h3⟩, hd⟩
theorem retS_go {prog : PL} {dl : List Dn} {j b now : Nat} {kd K : Int} {r : Rel} {w0 w w' : World} {ad0 ad' : Nat → Nat} {sz : Nat} {hm0 hm' : Nat → Value} (hov : r.over = false) (had : ∀ i, i < sz → ad' i = ad i) (hst : ST base B nh v kd K ad' r.s r.lk hs hm' w') (hp : JP base w w') (hV : JV base v prog (dl ++ [⟨v, j, b, -1, false⟩]) hm w) (h4 : ∀ i, i ≤ 4 → hm' i = hm i)
    (hn : NX al w' (.pointer (some ⟨B, v * 9, none⟩)) r.h.at_ kd (hm' 7) ∧ (r.h.at_ ≠ 0 → hm' 5 = jp (ad' r.h.p) ∧ hm' 6 = jp (ad' r.h.c))) (h34 : hm 3 = hm0 3 ∧ hm 4 = hm0 4) (hq : JQ base (hm0 2).ownBlock w0 w) (ho : ∀ g, (hm 2).ownBlock = some g → (hm0 2).ownBlock = some g ∨ w0.heap.size ≤ g) : RetS al base B nh v prog dl j b now kd ad sz hs hm0 r w0 (.returned (.tuple #[])) w' := by
  have hd : dnow r v j b now = ⟨v, j, b, -1, false⟩ := by unfold dnow; rw [hov]; rfl
  refine ⟨rfl, ad', hm', had, hst.js, by rw [hd]; exact hV.keepP hp h4, ⟨(h4 3 (by omega)).trans h34.1, (h4 4 (by omega)).trans h34.2⟩, fun h => (by rw [hov] at h; cases h), fun _ => hn, hq.trans (hp.q (hm0 2).ownBlock) (.inl rfl), fun g hg => ?_⟩
  rw [h4 2 (by omega)] at hg
  exact ho g hg
theorem retS_over {prog : PL} {dl : List Dn} {j b now : Nat} {kd K : Int} {r : Rel} {w0 w w' : World} {ad' : Nat → Nat} {sz : Nat} {hm0 hm' : Nat → Value} {g n c : Nat} (hov : r.over = true) (had : ∀ i, i < sz → ad' i = ad i) (hst : ST base B nh v kd K ad' r.s r.lk hs hm' w') (hp : JP base w w') (hV : JV base v prog (dl ++ [⟨v, j, b, -1, false⟩]) hm w) (h4 : ∀ i, i ≤ 4 → hm' i = hm i)
    (h7 : hm' 7 = .nilFunc) (h2 : hm 2 = .slice (some ⟨g, 0, none⟩) n c) (h34 : hm 3 = hm0 3 ∧ hm 4 = hm0 4) (hq : JQ base (hm0 2).ownBlock w0 w) (ho : ∀ g, (hm 2).ownBlock = some g → (hm0 2).ownBlock = some g ∨ w0.heap.size ≤ g) :
    RetS al base B nh v prog dl j b now kd ad sz hs hm0 r w0 (.returned (.tuple #[])) ((w'.setCell ⟨g, dl.length * 5 + 3, none⟩ (I now)).setCell ⟨g, dl.length * 5 + 4, none⟩ (.bool r.h.is_)) := by
  have hd : dnow r v j b now = ⟨v, j, b, now, r.h.is_⟩ := by unfold dnow; rw [hov]; rfl
  have hV' := hV.keepP hp h4
  have hdn := hV'.done
  have e2 : hm' 2 = .slice (some ⟨g, 0, none⟩) n c := (h4 2 (by omega)).trans h2
  rw [e2] at hdn
  obtain ⟨cs, hcs, hge⟩ := hdn.blk (g := g) rfl
  have hne : ∀ i, i < r.s.sz → ad' i ≠ g := fun i hi e => by
    have h1 := hst.js.l.bd i hi
    unfold JBead at h1
    rw [e, hcs] at h1
    injection h1 with h1
    injection h1 with _ h1
    exact absurd h1 (by decide)
  have hnB : B ≠ g := fun e => by
    obtain ⟨C, h2, _⟩ := hst.js.h
    rw [e, hcs] at h2
    injection h2 with h1
    injection h1 with _ h1
    exact absurd h1 (by decide)
  have q1 := JQ.row hcs hge (dl.length * 5 + 3) (I now)
  have q2 := JQ.row (w := w'.setCell ⟨g, dl.length * 5 + 3, none⟩ (I now)) (jset_at hcs) hge (dl.length * 5 + 4) (.bool r.h.is_)
  have q12 := q1.trans q2 (.inl rfl)
  have hrow : (hm 2).ownBlock = some g := by rw [h2]; rfl
  refine ⟨rfl, ad', hm', had, ⟨hst.js.l.keep fun i hi => ?_, hst.js.h.keep ?_, hst.js.ge⟩, ?_, ⟨(h4 3 (by omega)).trans h34.1, (h4 4 (by omega)).trans h34.2⟩, fun _ => h7, fun h => (by rw [hov] at h; cases h), ?_, fun g' hg => ?_⟩
  · rw [Below.heap_setCell _ _ _ _ (hne i hi), Below.heap_setCell _ _ _ _ (hne i hi)]
  · rw [Below.heap_setCell _ _ _ _ hnB, Below.heap_setCell _ _ _ _ hnB]
  · rw [hd]
    have hV2 : JV base v prog (dl ++ [⟨v, j, b, now, r.h.is_⟩]) hm' _ := ⟨hV'.who, hV'.le, (by
      obtain ⟨A, c, h1, h2, h3⟩ := hV'.deeds
      exact ⟨A, c, h1, h2.low0 h3 q12.bl, h3⟩), by rw [e2]; exact hdn.ended now r.h.is_⟩
    exact hV2
  · refine (hq.trans (hp.q (hm0 2).ownBlock) (.inl rfl)).trans q12 ?_
    rcases ho g hrow with h | h
    · exact .inl h.symm
    · exact .inr fun g' e => by cases e; exact h
  · rw [h4 2 (by omega)] at hg
    exact ho g' hg
theorem func_eq (k : Nat) (caps : Array Value) : ∀ w : World, (binOp .eql 1 (.func (.func k) #[] caps) .nilFunc).run Try.prog w = .ok (.bool false) w := fun _ => by kernel_rfl
theorem func_eqn : ∀ w : World, (binOp .eql 1 .nilFunc .nilFunc).run Try.prog w = .ok (.bool true) w := fun _ => by kernel_rfl
set_option maxRecDepth 100000 in
set_option maxHeartbeats 4000000 in
theorem step_on_go {prog : PL} {dl : List Dn} {j b now : Nat} (h : JS base B nh ad s lk (upd hs v hm) w) (hv : v < nh) (hj : j < prog.length) (hl : dl.length = j) (hV : JV base v prog (dl ++ [⟨v, j, b, -1, false⟩]) hm w)
    (hn : NX al w (.pointer (some ⟨B, v * 9, none⟩)) q.at_ prog[j].1 (hm 7)) (h3 : hm 3 = fWay al) (h4 : hm 4 = jp (ad 0)) (hpc : q.at_ ≠ 0 → hm 5 = jp (ad q.p) ∧ hm 6 = jp (ad q.c)) (hJ : JC al s lk q prog[j].1 prog[j].2) (hov : ((alg al).step s lk q prog[j].1 prog[j].2).over = false) :
    Calls Try.prog 36 #[.pointer (some ⟨B, v * 9, none⟩), I now] w (RetS al base B nh v prog dl j b now prog[j].1 ad s.sz hs hm ((alg al).step s lk q prog[j].1 prog[j].2) w) := by
  have hst : ST base B nh v prog[j].1 prog[j].2 ad s lk hs hm w := ⟨h, hv, hV.jd hj (by simp [hl])⟩
  obtain ⟨k, caps, h7, hC⟩ := next_any hst hn h3 h4 hpc hJ
  have hal := hJ.is_al
  obtain ⟨k', caps', h7', hE⟩ := hn.func hal
  have hkk : k' = k := by rw [h7] at h7'; injection h7' with h7'; injection h7' with h7'; exact h7'.symm
  subst hkk
  obtain ⟨kd, hkd⟩ : ∃ kd, prog[j].1 = kd := ⟨_, rfl⟩
  obtain ⟨K, hK⟩ : ∃ K, prog[j].2 = K := ⟨_, rfl⟩
  obtain ⟨r, hr⟩ : ∃ r, (alg al).step s lk q prog[j].1 prog[j].2 = r := ⟨_, rfl⟩
  rw [hr] at hC hov ⊢
  rw [hkd] at hC ⊢
  rw [hK] at hC
  have c7 := hst.hand (i := 7) (by omega)
  rw [h7] at c7
  have hq := func_eq k' caps
  have HC := Lib.hid hC
  have HV := Lib.hid hV
  have HAL := Lib.hid hal
  clear h hV hn hpc hJ hst hC h3 h4 hr hl hj hkd hK h7 h7' hal
  go_enter Try.func36, Try.ntmps36
  go_wp2_with fail
  refine HC.out.mono ?_
  rintro e w1 ⟨ad', hm', had, ⟨rfl, h1, hp1⟩, h41, -, hn1⟩
  have hn1' := hn1 hov
  obtain ⟨k1, caps1, e7, -⟩ := hn1'.1.func HAL.out
  have c71 := h1.hand (i := 7) (by omega)
  rw [e7] at c71
  have hq1 := func_eq k1 caps1
  have H1 := Lib.hid h1
  have HP1 := Lib.hid hp1
  have H41 := Lib.hid h41
  have HN1 := Lib.hid hn1'
  have HAD := Lib.hid had
  clear h1 hp1 h41 hn1 hn1' had e7 hq hE c7
  go_wp2
  go_end0
  exact retS_go (ad0 := ad') hov HAD.out H1.out HP1.out HV.out H41.out HN1.out ⟨rfl, rfl⟩ ((JP.refl _ _).q _) (fun g hg => .inl hg)
set_option maxRecDepth 100000 in
set_option maxHeartbeats 4000000 in
theorem step_on_over {prog : PL} {dl : List Dn} {j b now : Nat} (h : JS base B nh ad s lk (upd hs v hm) w) (hv : v < nh) (hj : j < prog.length) (hl : dl.length = j) (hV : JV base v prog (dl ++ [⟨v, j, b, -1, false⟩]) hm w)
    (hn : NX al w (.pointer (some ⟨B, v * 9, none⟩)) q.at_ prog[j].1 (hm 7)) (h3 : hm 3 = fWay al) (h4 : hm 4 = jp (ad 0)) (hpc : q.at_ ≠ 0 → hm 5 = jp (ad q.p) ∧ hm 6 = jp (ad q.c)) (hJ : JC al s lk q prog[j].1 prog[j].2) (hov : ((alg al).step s lk q prog[j].1 prog[j].2).over = true) :
    Calls Try.prog 36 #[.pointer (some ⟨B, v * 9, none⟩), I now] w (RetS al base B nh v prog dl j b now prog[j].1 ad s.sz hs hm ((alg al).step s lk q prog[j].1 prog[j].2) w) := by
  have hst : ST base B nh v prog[j].1 prog[j].2 ad s lk hs hm w := ⟨h, hv, hV.jd hj (by simp [hl])⟩
  obtain ⟨k, caps, h7, hC⟩ := next_any hst hn h3 h4 hpc hJ
  have hal := hJ.is_al
  obtain ⟨k', caps', h7', hE⟩ := hn.func hal
  have hkk : k' = k := by rw [h7] at h7'; injection h7' with h7'; injection h7' with h7'; exact h7'.symm
  subst hkk
  have hj4 : dl.length < 4 := by have := hV.le; omega
  obtain ⟨kd, hkd⟩ : ∃ kd, prog[j].1 = kd := ⟨_, rfl⟩
  obtain ⟨K, hK⟩ : ∃ K, prog[j].2 = K := ⟨_, rfl⟩
  obtain ⟨r, hr⟩ : ∃ r, (alg al).step s lk q prog[j].1 prog[j].2 = r := ⟨_, rfl⟩
  rw [hr] at hC hov ⊢
  rw [hkd] at hC ⊢
  rw [hK] at hC
  have c7 := hst.hand (i := 7) (by omega)
  rw [h7] at c7
  have hq := func_eq k' caps
  obtain ⟨DA, dc, e2, hDA⟩ := hV.done.is_
  obtain ⟨g, rfl⟩ : ∃ g, DA = some ⟨g, 0, none⟩ := by
    rcases hDA with h | h
    · simp at h
    · exact h
  have HC := Lib.hid hC
  have HV := Lib.hid hV
  have E2 := Lib.hid e2
  clear h hV hn hpc hJ hst hC h3 h4 hr hl hj hkd hK h7 h7' hal e2 hDA
  go_enter Try.func36, Try.ntmps36
  go_wp2_with fail
  refine HC.out.mono ?_
  rintro e w1 ⟨ad', hm', had, ⟨rfl, h1, hp1⟩, h41, ho1, -⟩
  obtain ⟨e7, e8⟩ := ho1 hov
  have c71 := h1.hand (i := 7) (by omega)
  have c81 := h1.hand (i := 8) (by omega)
  have c21 := h1.hand (i := 2) (by omega)
  rw [e7] at c71
  rw [e8] at c81
  rw [h41 2 (by omega), E2.out] at c21
  have hq1 := func_eqn
  have hV1 := HV.out.keepP hp1 h41
  have hd1 := hV1.done
  rw [h41 2 (by omega), E2.out] at hd1
  obtain ⟨hn5, d3, d4, df⟩ := hd1.last
  obtain ⟨m, hm5⟩ : ∃ m, dl.length = m := ⟨_, rfl⟩
  have HM := Lib.hid hm5
  rw [hm5] at d3 d4 hj4
  rw [hn5, hm5] at c21
  obtain ⟨bb, hbb⟩ : ∃ bb, r.h.is_ = bb := ⟨_, rfl⟩
  have HBB := Lib.hid hbb
  rw [hbb] at c81
  have f3 := df (m * 5 + 3)
  have f4 := df (m * 5 + 4)
  have hw1 : IntKind.i64.wrap (m : Int) = m := IntWalk.i64_in _ (by omega)
  have H1 := Lib.hid h1
  have HP1 := Lib.hid hp1
  have H41 := Lib.hid h41
  have HAD := Lib.hid had
  have E7 := Lib.hid e7
  have c21' : ∀ x : Nat, (w1.drewN x).cell? ⟨B, v * 9 + 2, none⟩ = _ := fun _ => c21
  clear h1 hp1 h41 had e7 e8 hq hE c7 ho1 hV1 hd1 hn5 df hm5 hbb
  go_wp2_with fail
  go_quiet (fail)
  go_wp2
  go_end0
  have := retS_over (now := now) (al := al) hov HAD.out (H1.out.drewN nq) (HP1.out.drewN nq) HV.out H41.out E7.out E2.out ⟨rfl, rfl⟩ ((JP.refl _ _).q _) (fun g hg => .inl hg)
  rw [HM.out, HBB.out] at this
  exact this
end

end Go.Proofs.Ytfmdpmebllepeaa

/-
  package hands: step, of a hand that begins its next deed.
-/
namespace Go.Proofs.Ytfmdpmebllepeaa
open Go.RowKit

theorem done_info : (Try.prog.info? 37).map (fun i => (i.zero, i.size, i.bytes)) = some (some (.agg #[I 0, I 0, I 0, I 0, .bool false]), 5, 40) := by kernel_rfl
theorem jinfo_parts {P : Program} {e : TypeId} {z : Value} {n b : Nat} (h : (P.info? e).map (fun i => (i.zero, i.size, i.bytes)) = some (some z, n, b)) : ∃ i, P.info? e = some i ∧ i.zero = some z ∧ i.size = n ∧ i.bytes = b := by
  cases hi : P.info? e with
  | none => rw [hi] at h; cases h
  | some i =>
    rw [hi] at h
    simp at h
    exact ⟨i, rfl, h.1, h.2.1, h.2.2⟩
section
variable {base B nh v : Nat} {ad : Nat → Nat} {s : Bs} {lk : Nat → Bool} {hs : Nat → Nat → Value} {hm : Nat → Value} {w : World} {al : Nat}
theorem JS.drewN (h : JS base B nh ad s lk hs w) (n : Nat) : JS base B nh ad s lk hs (w.drewN n) := ⟨h.l.keep fun _ _ => rfl, h.h.keep rfl, h.ge⟩
theorem JS.grown {w' : World} {row : Option Nat} (h : JS base B nh ad s lk hs w) (hg : w.grownBy w' row) (hr : ∀ g, row = some g → ∃ C, w.heap[g]? = some (.cells C 37 (0, 0))) : JS base B nh ad s lk hs w' := by
  refine ⟨h.l.keep fun i hi => hg.block _ (h.l.lt hi) fun e => ?_, h.h.keep (hg.block _ h.h.lt fun e => ?_), h.ge⟩
  · obtain ⟨C, hC⟩ := hr _ e.symm
    have h1 := h.l.bd i hi
    unfold JBead at h1
    rw [hC] at h1
    injection h1 with h1
    injection h1 with _ h1
    exact absurd h1 (by decide)
  · obtain ⟨C, hC⟩ := hr _ e.symm
    obtain ⟨C2, h2, _⟩ := h.h
    rw [hC] at h2
    injection h2 with h1
    injection h1 with _ h1
    exact absurd h1 (by decide)
theorem new_row {prog : PL} {dl : List Dn} {now m dc g5 cap5 : Nat} {DA : Option Addr} {w5 : World} (h : JS base B nh ad s lk (upd hs v hm) w) (hV : JV base v prog dl hm w) (hm5 : dl.length = m) (e2 : hm 2 = .slice DA dl.length dc)
    (hrow : ∀ g, (Value.slice DA m dc).ownBlock = some g → base ≤ g ∧ ∃ C, w.heap[g]? = some (.cells C 37 (0, 0)))
    (hS5 : JS base B nh ad s lk (upd hs v hm) w5) (hown5 : w5.ownsRow base 37 5 (.slice (some ⟨g5, 0, none⟩) (m + 1) cap5) (m + 1) (flatD dl ++ [I v, I m, I now, I (-1), .bool false]))
    (hgrow5 : (w.drew.alloc (.cells #[I v, I m, I now, I (-1), .bool false] 37)).grownBy w5 (Value.slice DA m dc).ownBlock) (hat5 : (Value.slice DA m dc).ownBlock = some g5 ∨ g5 = w.heap.size + 1) :
    JS base B nh ad s lk (upd hs v (upd hm 2 (.slice (some ⟨g5, 0, none⟩) (m + 1) cap5))) (w5.setCell ⟨B, v * 9 + 2, none⟩ (.slice (some ⟨g5, 0, none⟩) (m + 1) cap5)) ∧
      JV base v prog (dl ++ [⟨v, m, now, -1, false⟩]) (upd hm 2 (.slice (some ⟨g5, 0, none⟩) (m + 1) cap5)) (w5.setCell ⟨B, v * 9 + 2, none⟩ (.slice (some ⟨g5, 0, none⟩) (m + 1) cap5)) ∧
      JQ base (hm 2).ownBlock w (w5.setCell ⟨B, v * 9 + 2, none⟩ (.slice (some ⟨g5, 0, none⟩) (m + 1) cap5)) ∧
      ∀ g, ((upd hm 2 (.slice (some ⟨g5, 0, none⟩) (m + 1) cap5)) 2).ownBlock = some g → (hm 2).ownBlock = some g ∨ w.heap.size ≤ g := by
  have hO : (hm 2).ownBlock = (Value.slice DA m dc).ownBlock := by rw [e2, hm5]
  have hJS := hS5.fld (i := 2) (by omega) v (.slice (some ⟨g5, 0, none⟩) (m + 1) cap5)
  rw [upd_same, upd_upd] at hJS
  have hP1 : JP base w (w.drew.alloc (.cells #[I v, I m, I now, I (-1), .bool false] 37)) := ((JP.refl base w).drew).alloc (by exact h.szb) _
  have hQ2 : JQ base (Value.slice DA m dc).ownBlock (w.drew.alloc (.cells #[I v, I m, I now, I (-1), .bool false] 37)) w5 := JQ.grown hgrow5 (by have := h.szb; simp; omega) (fun g hg => by
    obtain ⟨a, C, hC⟩ := hrow g hg
    exact ⟨a, C, (Below.heap_alloc _ _ _ (by exact jblk hC)).trans hC⟩)
  have hQ3 : JP base w5 (w5.setCell ⟨B, v * 9 + 2, none⟩ (.slice (some ⟨g5, 0, none⟩) (m + 1) cap5)) := hS5.jp_fld _ _
  have hQ := ((hP1.q (Value.slice DA m dc).ownBlock).trans hQ2 (.inl rfl)).trans (hQ3.q (Value.slice DA m dc).ownBlock) (.inl rfl)
  have hlen : (dl ++ [(⟨v, m, now, -1, false⟩ : Dn)]).length = m + 1 := by simp [hm5]
  have hD5 : OwnD w5 base (.slice (some ⟨g5, 0, none⟩) (m + 1) cap5) (dl ++ [⟨v, m, now, -1, false⟩]) := by
    unfold OwnD
    rw [hlen, flatD_append]
    exact hown5
  refine ⟨hJS, hV.same (fun i hi => upd_other _ _ (by omega)) hQ.bl ?_, by rw [hO]; exact hQ, fun g hg => ?_⟩
  · rw [upd_same]
    exact hD5.keepP hQ3
  · rw [upd_same] at hg
    have : g = g5 := (Option.some.inj hg).symm
    subst this
    rw [hO]
    rcases hat5 with h1 | h1
    · exact .inl h1
    · exact .inr (by omega)
set_option maxRecDepth 100000 in
set_option maxHeartbeats 8000000 in
theorem step_new_go {prog : PL} {dl : List Dn} {now : Nat} (h : JS base B nh ad s lk (upd hs v hm) w) (hv : v < nh) (hj : dl.length < prog.length) (hV : JV base v prog dl hm w)
    (h7 : hm 7 = .nilFunc) (h3 : hm 3 = fWay al) (h4 : hm 4 = jp (ad 0)) (hJ : JC al s lk hd0 prog[dl.length].1 prog[dl.length].2) (hov : ((alg al).step s lk hd0 prog[dl.length].1 prog[dl.length].2).over = false) :
    Calls Try.prog 36 #[.pointer (some ⟨B, v * 9, none⟩), I now] w (RetS al base B nh v prog dl dl.length now now prog[dl.length].1 ad s.sz hs hm ((alg al).step s lk hd0 prog[dl.length].1 prog[dl.length].2) w) := by
  have hal := hJ.is_al
  have hle := hV.le
  have HJD : Hid (∀ (hm' : Nat → Value) (w' : World) (d : Dn), JV base v prog (dl ++ [d]) hm' w' → JD base hm' prog[dl.length].1 prog[dl.length].2 w') := fun hm' w' d h => h.jd hj (by simp)
  obtain ⟨kd, hkd⟩ : ∃ kd, prog[dl.length].1 = kd := ⟨_, rfl⟩
  obtain ⟨K, hK⟩ : ∃ K, prog[dl.length].2 = K := ⟨_, rfl⟩
  rw [hkd, hK] at hJ hov HJD
  rw [hkd, hK]
  obtain ⟨r, hr⟩ : ∃ r, (alg al).step s lk hd0 kd K = r := ⟨_, rfl⟩
  have HJ := Lib.hid hJ
  have HR := Lib.hid hr
  rw [hr] at hov ⊢
  obtain ⟨DA, dc, e2, hDA⟩ := hV.done.is_
  obtain ⟨m, hm5⟩ : ∃ m, dl.length = m := ⟨_, rfl⟩
  have hown0 : w.ownsRow base 37 5 (.slice DA m dc) m (flatD dl) := by have := hV.done; unfold OwnD at this; rw [e2, hm5] at this; exact this
  have hrow : ∀ g, (Value.slice DA m dc).ownBlock = some g → base ≤ g ∧ ∃ C, w.heap[g]? = some (.cells C 37 (0, 0)) := fun g hg => by
    obtain ⟨C, a, b⟩ := hV.done.blk (g := g) (by rw [e2, hm5]; exact hg)
    exact ⟨b, C, a⟩
  have c7 : w.cell? ⟨B, v * 9 + 7, none⟩ = some .nilFunc := by have := h.h.cell hv (i := 7) (by omega); rw [upd_same, h7] at this; exact this
  have c2 : w.cell? ⟨B, v * 9 + 2, none⟩ = some (.slice DA m dc) := by have := h.h.cell hv (i := 2) (by omega); rw [upd_same, e2, hm5] at this; exact this
  have c0 : w.cell? ⟨B, v * 9, none⟩ = some (I v) := by have := h.h.cell hv (i := 0) (by omega); rw [upd_same, hV.who] at this; exact this
  have c2a : ∀ o : Obj, (w.drew.alloc o).cell? ⟨B, v * 9 + 2, none⟩ = some (.slice DA m dc) := fun o => (((Below.refl _ _).alloc (Nat.le_refl _) o).cell (B := w.drew.heap.size) (w := w.drew) (p := ⟨B, v * 9 + 2, none⟩) (by exact h.h.lt)).trans c2
  have hq := func_eqn
  obtain ⟨i0, hi, hz0, hz1, hz2⟩ := jinfo_parts done_info
  have HI := Lib.hid hi
  have HZ0 := Lib.hid hz0
  have HZ1 := Lib.hid hz1
  have HZ2 := Lib.hid hz2
  have H := Lib.hid h
  have HV := Lib.hid hV
  have HOWN : Hid ((w.drew.alloc (.cells #[I v, I m, I now, I (-1), .bool false] 37)).ownsRow base 37 5 (.slice DA m dc) m (flatD dl)) := Lib.hid (by
    have := hV.done.keepP (((JP.refl base w).drew).alloc (by exact h.szb) (.cells #[I v, I m, I now, I (-1), .bool false] 37))
    unfold OwnD at this
    rw [e2, hm5] at this
    exact this)
  have HROW := Lib.hid hrow
  have hsz := h.szb
  have hBlt := h.h.lt
  have HM := Lib.hid hm5
  have hm4 : m ≤ 4 := by omega
  have H3 := Lib.hid h3
  have H4 := Lib.hid h4
  have E2 := Lib.hid e2
  have HOV := Lib.hid hov
  have HAL := Lib.hid hal
  have HNEW : Hid (∀ j u, [I (v : Int), I (m : Int), I (now : Int), I (-1), .bool false][j]? = some u → (w.drew.alloc (.cells #[I v, I m, I now, I (-1), .bool false] 37)).cell? ((⟨w.heap.size, 0, none⟩ : Addr).add j) = some u) := fun j u hu => by
    have : (w.drew.alloc (.cells #[I v, I m, I now, I (-1), .bool false] 37)).cell? ⟨w.drew.heap.size, j, none⟩ = _ := World.cell?_alloc_mark w.drew #[I v, I m, I now, I (-1), .bool false] 37 (0, 0) j
    rw [show ((⟨w.heap.size, 0, none⟩ : Addr).add j) = ⟨w.drew.heap.size, j, none⟩ by simp [Addr.add] <;> omega, this]
    simpa using hu
  clear hi hz0 hz1 hz2 h hV hown0 hrow h7 h3 h4 hJ hov hal e2 hDA hm5 hle hr hkd hK hj
  go_enter Try.func36, Try.ntmps36
  go_wp2_with fail
  go_region_law
    (refine step_append_lies _ rfl (.tmp 14) (.tmp 26) 24 rfl base 37 i0 _ 5 40 Try.underlying24 HI.out HZ0.out HZ1.out HZ2.out rfl (by omega) (.slice DA m dc) m (flatD dl) rfl HOWN.out ⟨w.heap.size, 0, none⟩ 1 1 [I v, I m, I now, I (-1), .bool false] rfl rfl HNEW.out (by intro u hu; simp at hu; rcases hu with rfl | rfl | rfl | rfl | rfl <;> rfl) (by omega) (by unfold maxLen; omega) (by omega) (by simp; omega) (w.heap.size + 1) (by simp) ?_
     intro g5 cap5 w5 hown5 hgrow5 hat5 hlt5
     have hgr : ∀ g, (Value.slice DA m dc).ownBlock = some g → ∃ C, (w.drew.alloc (.cells #[I v, I m, I now, I (-1), .bool false] 37)).heap[g]? = some (.cells C 37 (0, 0)) := fun g hg => (by
       obtain ⟨_, C, hC⟩ := HROW.out g hg
       exact ⟨C, (Below.heap_alloc _ _ _ (by exact jblk hC)).trans hC⟩)
     have hS5 := ((H.out.drewN 1).alloc (.cells #[I v, I m, I now, I (-1), .bool false] 37)).grown hgrow5 hgr
     have c25 : w5.cell? ⟨B, v * 9 + 2, none⟩ = some (.slice DA m dc) := (by have := hS5.h.cell hv (i := 2) (by omega); rw [upd_same, E2.out, HM.out] at this; exact this)
     have f25 := hS5.h.froz (v * 9 + 2)
     have HS5 := Lib.hid hS5
     have HOWN5 := Lib.hid hown5
     have HGROW5 := Lib.hid hgrow5
     have HAT5 := Lib.hid hat5
     clear hown5 hgrow5 hat5 hS5 hgr)
  all_goals
    (obtain ⟨hs6, hV6, hQ6, ho6⟩ := new_row (now := now) H.out HV.out HM.out E2.out HROW.out HS5.out HOWN5.out HGROW5.out HAT5.out
     have hst6 : ST base B nh v kd K ad s lk hs (upd hm 2 (.slice (some ⟨g5, 0, none⟩) (m + 1) cap5)) (w5.setCell ⟨B, v * 9 + 2, none⟩ (.slice (some ⟨g5, 0, none⟩) (m + 1) cap5)) := ⟨hs6, hv, HJD.out _ _ _ hV6⟩
     have HB6 := Lib.hid (begin_any HAL.out hst6 ((upd_other _ _ (by omega)).trans H3.out))
     have HV6 := Lib.hid hV6
     have HQ6 := Lib.hid hQ6
     have HO6 := Lib.hid ho6
     clear hs6 hV6 hQ6 ho6 hst6
     go_wp2_with fail
     refine HB6.out.mono ?_
     rintro e w7 ⟨f, ⟨rfl, h7, hp7⟩, hn7⟩
     have hn7' : NX al w7 (.pointer (some ⟨B, v * 9, none⟩)) hd0.at_ kd ((upd (upd hm 2 (.slice (some ⟨g5, 0, none⟩) (m + 1) cap5)) 7 f) 7) := (by rw [upd_same]; exact hn7)
     obtain ⟨k, caps, e7, hC⟩ := next_any h7 hn7' ((upd_other _ _ (by omega)).trans ((upd_other _ _ (by omega)).trans H3.out)) ((upd_other _ _ (by omega)).trans ((upd_other _ _ (by omega)).trans H4.out)) (fun h => absurd rfl h) HJ.out
     obtain ⟨k', caps', e7', hE⟩ := hn7'.func HAL.out
     have hkk : k' = k := (by rw [e7] at e7'; injection e7' with e7'; injection e7' with e7'; exact e7'.symm)
     subst hkk
     have c77 := h7.hand (i := 7) (by omega)
     rw [e7] at c77
     rw [HR.out] at hC
     have HC := Lib.hid hC
     have HP7 := Lib.hid hp7
     clear hn7 hn7' e7 e7' h7 hp7 hC
     go_wp2_with fail
     refine HC.out.mono ?_
     rintro e w8 ⟨ad', hm', had, ⟨rfl, h1, hp1⟩, h41, -, hn1⟩
     have hn1' := hn1 HOV.out
     obtain ⟨k1, caps1, e71, -⟩ := hn1'.1.func HAL.out
     have c71 := h1.hand (i := 7) (by omega)
     rw [e71] at c71
     have hq1 := func_eq k1 caps1
     have H1 := Lib.hid h1
     have HP1 := Lib.hid hp1
     have H41 := Lib.hid h41
     have HN1 := Lib.hid hn1'
     have HAD := Lib.hid had
     clear h1 hp1 h41 hn1 hn1' had e71 hE c77
     go_wp2
     go_end0
     have hres := retS_go (now := now) (b := now) (j := m) (ad0 := ad') HOV.out HAD.out H1.out (HP7.out.trans HP1.out) HV6.out (fun i hi => (H41.out i hi).trans (upd_other _ _ (by omega))) HN1.out ⟨upd_other _ _ (by omega), upd_other _ _ (by omega)⟩ HQ6.out HO6.out
     rw [HM.out]
     exact hres)
end

end Go.Proofs.Ytfmdpmebllepeaa

/-
  package hands: all hands: a step of one of them, beside the plain step.
-/
namespace Go.Proofs.Ytfmdpmebllepeaa
open Go.RowKit

def dds (P : Nat → PL) (v j : Nat) : Int × Int := ((P v)[j]?).getD (0, 0)
def DL (W : Wd) (v : Nat) : List Dn := (List.range (W.ix v)).map (tolD W v) ++ (match W.bg v with | none => [] | some b => [⟨v, W.ix v, b, -1, false⟩])
structure HO (al base B v : Nat) (pr : PL) (W : Wd) (ad : Nat → Nat) (hm : Nat → Value) (w : World) : Prop where
  jv : JV base v pr (DL W v) hm w
  way : hm 3 = fWay al
  head : hm 4 = jp (ad 0)
  idle : W.bg v = none → hm 7 = .nilFunc
  at_ : ∀ b, W.bg v = some b → NX al w (.pointer (some ⟨B, v * 9, none⟩)) (W.hs v).at_ ((pr[W.ix v]?).getD (0, 0)).1 (hm 7) ∧ ((W.hs v).at_ ≠ 0 → hm 5 = jp (ad (W.hs v).p) ∧ hm 6 = jp (ad (W.hs v).c))
structure GS (al base B nh : Nat) (P : Nat → PL) (W : Wd) (ad : Nat → Nat) (hs : Nat → Nat → Value) (w : World) : Prop where
  js : JS base B nh ad W.s W.lk hs w
  ho : ∀ v, v < nh → HO al base B v (P v) W ad (hs v) w
  apt : ∀ v v', v < nh → v' < nh → v ≠ v' → ∀ g, (hs v 2).ownBlock = some g → (hs v' 2).ownBlock ≠ some g
  blt : ∀ v b, W.bg v = some b → W.ix v < (P v).length
def Okay (al : Nat) (P : Nat → PL) (W : Wd) : Prop := ∀ v, W.ix v < (P v).length → JC al W.s W.lk (W.hs v) (dds P v (W.ix v)).1 (dds P v (W.ix v)).2 ∧ (W.bg v = none → W.hs v = hd0)
structure JR (base : Nat) (w w' : World) : Prop where
  kp : ∀ (g : Nat) (cs : Array Value) (t : Nat) (f : Nat × Nat), w.heap[g]? = some (Obj.cells cs t f) → t ≠ 86 → t ≠ 74 → t ≠ 37 → w'.heap[g]? = some (Obj.cells cs t f)
  bl : Below base w w'
theorem JQ.r {base : Nat} {row : Option Nat} {w w' : World} (h : JQ base row w w') : JR base w w' := ⟨fun g cs t f a b c d => h.kp g cs t f a b c (fun e => absurd e d), h.bl⟩
theorem JR.trans {base : Nat} {w w1 w2 : World} (h : JR base w w1) (h2 : JR base w1 w2) : JR base w w2 := ⟨fun g cs t f a b c d => h2.kp g cs t f (h.kp g cs t f a b c d) b c d, h.bl.trans h2.bl⟩
theorem JR.refl (base : Nat) (w : World) : JR base w w := ⟨fun _ _ _ _ h _ _ _ => h, Below.refl _ _⟩

theorem alg_first {al : Nat} (hal : al = 1 ∨ al = 2 ∨ al = 3 ∨ al = 4) (s : Bs) (lk : Nat → Bool) (kd K : Int) : ((alg al).step s lk hd0 kd K).over = false := by
  rcases hal with rfl | rfl | rfl | rfl
  · exact aOver_ok.first s lk kd K
  · exact aLazy_ok.first s lk kd K
  · exact aMark_ok.first s lk kd K
  · show (naiveS s hd0 kd K).over = false
    unfold naiveS
    rw [if_pos rfl]
theorem JC.pc {al : Nat} {s : Bs} {lk : Nat → Bool} {q : Hd} {kd K : Int} (h : JC al s lk q kd K) (h0 : q.at_ ≠ 0) : q.p < s.sz ∧ q.c < s.sz := by
  rcases h.c with ⟨_, a, b⟩ | ⟨_, a, g, b⟩ | ⟨_, a, g, b⟩ | ⟨_, a, b⟩
  · obtain ⟨p1, p2, p3, p4⟩ := b.pc h0
    exact ⟨p1, by rw [← p4]; exact a.cor.nlt _ p1 (key_tl a.cor h.d.1 (.inl p2))⟩
  · exact ⟨(b.pc h0).1, (b.pc h0).2.1⟩
  · exact ⟨(b.pc h0).1, (b.pc h0).2.1⟩
  · exact ⟨(b.pc h0).1, (b.pc h0).2.1⟩
theorem JC.pos {al : Nat} {s : Bs} {lk : Nat → Bool} {q : Hd} {kd K : Int} (h : JC al s lk q kd K) : 0 < s.sz := by
  rcases h.c with ⟨_, a, b⟩ | ⟨_, a, g, b⟩ | ⟨_, a, g, b⟩ | ⟨_, a, b⟩
  · exact a.cor.pos
  · exact a.pos
  · exact a.pos
  · exact a.pos
section
variable {al base B nh : Nat} {P : Nat → PL} {W : Wd} {ad : Nat → Nat} {hs : Nat → Nat → Value} {w : World}
theorem dds_at {v j : Nat} (h : j < (P v).length) : dds P v j = (P v)[j] := by unfold dds; rw [List.getElem?_eq_getElem h]; rfl
theorem DL_go (v : Nat) {A : Alg} {r : Rel} (hr : A.step W.s W.lk (W.hs v) (dds P v (W.ix v)).1 (dds P v (W.ix v)).2 = r) {b : Nat} (hb : (W.bg v).getD W.now = b) : DL (W.go A (dds P) v) v = (List.range (W.ix v)).map (tolD W v) ++ [dnow r v (W.ix v) b W.now] := by
  have hgo : W.go A (dds P) v = ⟨r.s, r.lk, upd W.hs v r.nh, upd W.ix v (if r.over = true then W.ix v + 1 else W.ix v), upd W.bg v (if r.over = true then none else some b), W.now + 1,
    if r.over = true then fun w' j => if w' = v ∧ j = W.ix v then some (b, W.now, r.h.is_) else W.tol w' j else W.tol⟩ := by
    unfold Wd.go
    rw [hr, hb]
  rw [hgo]
  unfold DL dnow
  cases hov : r.over with
  | true =>
    simp only [if_true, upd_same, List.append_nil]
    rw [List.range_succ, List.map_append, List.map_singleton]
    congr 1
    · apply List.map_congr_left
      intro j hj
      have hj' := List.mem_range.mp hj
      unfold tolD
      show (match (if v = v ∧ j = W.ix v then some (b, W.now, r.h.is_) else W.tol v j) with | some (b, e, i) => (⟨v, j, b, e, i⟩ : Dn) | none => ⟨v, j, 0, -1, false⟩) = _
      rw [if_neg (by omega)]
      rfl
    · unfold tolD
      show [match (if v = v ∧ W.ix v = W.ix v then some (b, W.now, r.h.is_) else W.tol v (W.ix v)) with | some (b, e, i) => (⟨v, W.ix v, b, e, i⟩ : Dn) | none => ⟨v, W.ix v, 0, -1, false⟩] = _
      rw [if_pos ⟨rfl, rfl⟩]
  | false =>
    simp only [Bool.false_eq_true, if_false, upd_same]
    congr 1
theorem DL_other {v v' : Nat} (A : Alg) (h : v' ≠ v) : DL (W.go A (dds P) v) v' = DL W v' := by
  unfold DL Wd.go
  simp only [upd_other _ _ h]
  congr 1
  apply List.map_congr_left
  intro j hj
  unfold tolD
  cases hov : (A.step W.s W.lk (W.hs v) (dds P v (W.ix v)).1 (dds P v (W.ix v)).2).over with
  | true =>
    simp only [if_true]
    rw [if_neg (by omega)]
  | false => simp only [Bool.false_eq_true, if_false]
theorem GS.step {v : Nat} (h : GS al base B nh P W ad hs w) (hok : Okay al P W) (hv : v < nh) (hi : W.ix v < (P v).length) {w' : World} {e : Ending} {b : Nat} (hb : (W.bg v).getD W.now = b)
    (hr : RetS al base B nh v (P v) ((List.range (W.ix v)).map (tolD W v)) (W.ix v) b W.now (dds P v (W.ix v)).1 ad W.s.sz hs (hs v) ((alg al).step W.s W.lk (W.hs v) (dds P v (W.ix v)).1 (dds P v (W.ix v)).2) w e w') :
    e = .returned (.tuple #[]) ∧ ∃ ad' hs', GS al base B nh P (W.go (alg al) (dds P) v) ad' hs' w' ∧ JR base w w' ∧ ad' 0 = ad 0 := by
  obtain ⟨rfl, ad', hm', had, hjs, hjv, ⟨e3, e4⟩, ho, hg, hq, hrow⟩ := hr
  obtain ⟨r, hrr⟩ : ∃ r, (alg al).step W.s W.lk (W.hs v) (dds P v (W.ix v)).1 (dds P v (W.ix v)).2 = r := ⟨_, rfl⟩
  rw [hrr] at hjs hjv ho hg
  have hgo : W.go (alg al) (dds P) v = ⟨r.s, r.lk, upd W.hs v r.nh, upd W.ix v (if r.over = true then W.ix v + 1 else W.ix v), upd W.bg v (if r.over = true then none else some b), W.now + 1,
    if r.over = true then fun w' j => if w' = v ∧ j = W.ix v then some (b, W.now, r.h.is_) else W.tol w' j else W.tol⟩ := by
    unfold Wd.go
    rw [hrr, hb]
  have hpos := (hok v hi).1.pos
  have hlow : ∀ v', v' < nh → ∀ g, (hs v' 2).ownBlock = some g → g < w.heap.size := fun v' hv' g hg => by
    obtain ⟨cs, hc, _⟩ := (h.ho v' hv').jv.done.blk hg
    exact jblk hc
  refine ⟨rfl, ad', upd hs v hm', ⟨?_, fun v' hv' => ?_, fun v1 v2 h1 h2 hne g hg1 hg2 => ?_, fun v' b' hb' => ?_⟩, hq.r, had 0 hpos⟩
  · rw [hgo]; exact hjs
  · by_cases e : v' = v
    · subst e
      rw [upd_same]
      refine ⟨by rw [DL_go v' hrr hb]; exact hjv, e3.trans (h.ho v' hv').way, ?_, fun hn => ?_, fun b' hb' => ?_⟩
      · rw [e4, (h.ho v' hv').head, had 0 hpos]
      · rw [hgo] at hn
        have hn' : upd W.bg v' (if r.over = true then none else some b) v' = none := hn
        rw [upd_same] at hn'
        cases hov : r.over with
        | true => exact ho hov
        | false => rw [hov] at hn'; cases hn'
      · rw [hgo] at hb'
        have hb'' : upd W.bg v' (if r.over = true then none else some b) v' = some b' := hb'
        rw [upd_same] at hb''
        cases hov : r.over with
        | true => rw [hov] at hb''; cases hb''
        | false =>
          obtain ⟨g1, g2⟩ := hg hov
          have hnh : r.nh = r.h := by unfold Rel.nh; rw [hov]; rfl
          have hhs : (W.go (alg al) (dds P) v').hs v' = r.h := by rw [hgo]; show upd W.hs v' r.nh v' = r.h; rw [upd_same, hnh]
          have hix : (W.go (alg al) (dds P) v').ix v' = W.ix v' := by rw [hgo]; show upd W.ix v' (if r.over = true then W.ix v' + 1 else W.ix v') v' = W.ix v'; rw [upd_same, hov]; rfl
          rw [hhs, hix]
          exact ⟨g1, g2⟩
    · rw [upd_other _ _ e]
      have H := h.ho v' hv'
      have hne : ∀ g, (hs v' 2).ownBlock = some g → (hs v 2).ownBlock ≠ some g := fun g hg => h.apt v' v hv' hv e g hg
      have hbg : (W.go (alg al) (dds P) v).bg v' = W.bg v' := by rw [hgo]; exact upd_other _ _ e
      have hhs : (W.go (alg al) (dds P) v).hs v' = W.hs v' := by rw [hgo]; exact upd_other _ _ e
      have hix : (W.go (alg al) (dds P) v).ix v' = W.ix v' := by rw [hgo]; exact upd_other _ _ e
      refine ⟨?_, H.way, by rw [H.head, had 0 hpos], fun hn => H.idle (by rw [← hbg]; exact hn), fun b' hb' => ?_⟩
      · rw [DL_other (alg al) e]
        obtain ⟨A, c, a1, a2, a3⟩ := H.jv.deeds
        exact ⟨H.jv.who, H.jv.le, ⟨A, c, a1, a2.low0 a3 hq.bl, a3⟩, H.jv.done.keepQ hq hne⟩
      · rw [hbg] at hb'
        rw [hhs, hix]
        obtain ⟨g1, g2⟩ := H.at_ b' hb'
        refine ⟨g1.keepQ hq, fun h0 => ?_⟩
        have hp := (hok v' (h.blt v' b' hb')).1.pc h0
        rw [had _ hp.1, had _ hp.2]
        exact g2 h0
  · by_cases e1 : v1 = v
    · have e2 : v2 ≠ v := fun e => hne (by rw [e1, e])
      rw [e1, upd_same] at hg1
      rw [upd_other _ _ e2] at hg2
      rcases hrow g hg1 with hr | hr
      · exact h.apt v v2 hv h2 (fun e => e2 e.symm) g hr hg2
      · have := hlow v2 h2 g hg2; omega
    · rw [upd_other _ _ e1] at hg1
      by_cases e2 : v2 = v
      · rw [e2, upd_same] at hg2
        rcases hrow g hg2 with hr | hr
        · exact h.apt v1 v h1 hv e1 g hg1 hr
        · have := hlow v1 h1 g hg1; omega
      · rw [upd_other _ _ e2] at hg2
        exact h.apt v1 v2 h1 h2 hne g hg1 hg2
  · rw [hgo] at hb' ⊢
    show upd W.ix v (if r.over = true then W.ix v + 1 else W.ix v) v' < _
    have hb'' : upd W.bg v (if r.over = true then none else some b) v' = some b' := hb'
    by_cases e : v' = v
    · subst e
      rw [upd_same] at hb'' ⊢
      cases hov : r.over with
      | true => rw [hov] at hb''; cases hb''
      | false => rw [if_neg (by decide)]; exact hi
    · rw [upd_other _ _ e] at hb'' ⊢
      exact h.blt v' b' hb''
theorem gstep_any {v : Nat} (h : GS al base B nh P W ad hs w) (hok : Okay al P W) (hv : v < nh) (hi : W.ix v < (P v).length) :
    Calls Try.prog 36 #[.pointer (some ⟨B, v * 9, none⟩), I W.now] w fun e w' => e = .returned (.tuple #[]) ∧ ∃ ad' hs', GS al base B nh P (W.go (alg al) (dds P) v) ad' hs' w' ∧ JR base w w' ∧ ad' 0 = ad 0 := by
  have H := h.ho v hv
  obtain ⟨hJ, hidle⟩ := hok v hi
  have hal := hJ.is_al
  have hjs : JS base B nh ad W.s W.lk (upd hs v (hs v)) w := by rw [upd_self]; exact h.js
  have hjv := H.jv
  unfold DL at hjv
  have hd := dds_at (P := P) hi
  have hlen : ((List.range (W.ix v)).map (tolD W v)).length = W.ix v := by simp
  cases hbg : W.bg v with
  | none =>
    rw [hbg] at hjv
    simp only [List.append_nil] at hjv
    have hhd := hidle hbg
    have hidx : ((List.range (W.ix v)).map (tolD W v)).length < (P v).length := by rw [hlen]; exact hi
    have hJ' := hJ
    rw [hhd] at hJ'
    have hE : (P v)[((List.range (W.ix v)).map (tolD W v)).length] = dds P v (W.ix v) := by rw [hd]; congr 1
    have := step_new_go (now := W.now) hjs hv hidx hjv (H.idle hbg) H.way H.head (by rw [hE]; exact hJ') (alg_first hal _ _ _ _)
    rw [hE, hlen] at this
    refine this.mono fun e w' hr => h.step hok hv hi (b := W.now) (by rw [hbg]; rfl) ?_
    rw [hhd]
    exact hr
  | some b =>
    rw [hbg] at hjv
    obtain ⟨g1, g2⟩ := H.at_ b hbg
    have hE : ((P v)[W.ix v]?).getD (0, 0) = (P v)[W.ix v] := hd
    rw [hE] at g1
    rw [hd] at hJ
    cases hov : ((alg al).step W.s W.lk (W.hs v) (P v)[W.ix v].1 (P v)[W.ix v].2).over with
    | false =>
      refine (step_on_go (now := W.now) hjs hv hi hlen hjv g1 H.way H.head g2 hJ hov).mono fun e w' hr => h.step hok hv hi (b := b) (by rw [hbg]; rfl) ?_
      rw [hd]
      exact hr
    | true =>
      refine (step_on_over (now := W.now) hjs hv hi hlen hjv g1 H.way H.head g2 hJ hov).mono fun e w' hr => h.step hok hv hi (b := b) (by rw [hbg]; rfl) ?_
      rw [hd]
      exact hr
end

end Go.Proofs.Ytfmdpmebllepeaa

/-
  package hands: hasDeeds, and the function of run that gives a hand its step.
-/
namespace Go.Proofs.Ytfmdpmebllepeaa
open Go.RowKit

def IBox (w : World) (g : Nat) (x : Int) : Prop := w.heap[g]? = some (.cells #[I x] 3 (0, 0))
theorem IBox.cell {w : World} {g : Nat} {x : Int} (h : IBox w g x) : w.cell? ⟨g, 0, none⟩ = some (I x) := by rw [jcell h]; rfl
theorem IBox.lt {w : World} {g : Nat} {x : Int} (h : IBox w g x) : g < w.heap.size := jblk h
theorem IBox.keepR {base : Nat} {w w' : World} {g : Nat} {x : Int} (h : IBox w g x) (hr : JR base w w') : IBox w' g x := hr.kp g _ _ _ h (by decide) (by decide) (by decide)
theorem IBox.set {w : World} {g : Nat} {x : Int} (h : IBox w g x) (y : Int) : IBox (w.setCell ⟨g, 0, none⟩ (I y)) g y := by unfold IBox; rw [jset_at h]; rfl
theorem IBox.far {w : World} {g : Nat} {x : Int} (h : IBox w g x) {p : Addr} (hp : g ≠ p.block) (u : Value) : IBox (w.setCell p u) g x := (Below.heap_setCell _ _ _ _ hp).trans h
def nowOf (w : World) (g : Nat) : Nat := match w.cell? ⟨g, 0, none⟩ with | some (.int _ n) => n.toNat | _ => 0
theorem IBox.now {w : World} {g : Nat} {x : Int} (h : IBox w g x) : nowOf w g = x.toNat := by unfold nowOf; rw [h.cell]
theorem NX.keepB {al : Nat} {w w' : World} {P : Value} {at_ : Nat} {kd : Int} {f : Value} (h : NX al w P at_ kd f)
    (hk : ∀ (g : Nat) (cs : Array Value) (t : Nat) (f : Nat × Nat), w.heap[g]? = some (Obj.cells cs t f) → (t = 1 ∨ t = 75) → w'.heap[g]? = some (Obj.cells cs t f)) : NX al w' P at_ kd f := by
  have hH : ∀ {g x}, HBox w g x → HBox w' g x := fun h => hk _ _ _ _ h (.inr rfl)
  have hF : ∀ {g x}, FBox w g x → FBox w' g x := fun h => hk _ _ _ _ h (.inl rfl)
  refine ⟨fun e => ?_, fun e => ?_, fun e => ?_, fun e => ?_⟩
  · obtain ⟨hb, lb, ob, a, b⟩ := h.1 e; exact ⟨hb, lb, ob, ⟨hH a.h, hF a.l, hF a.o⟩, b⟩
  · obtain ⟨hb, wb, lb, ob, ub, a, b⟩ := h.2.1 e; exact ⟨hb, wb, lb, ob, ub, ⟨hH a.h, hF a.k, hF a.l, hF a.o, hF a.u⟩, b⟩
  · obtain ⟨gb, ub, hb, ab, cb, lb, a, b⟩ := h.2.2.1 e; exact ⟨gb, ub, hb, ab, cb, lb, ⟨hH a.g, hF a.u, ⟨hH a.e.h, hF a.e.a, hF a.e.c, hF a.e.l⟩⟩, b⟩
  · obtain ⟨gb, hb, ab, cb, lb, a, b⟩ := h.2.2.2 e; exact ⟨gb, hb, ab, cb, lb, ⟨hH a.g, ⟨hH a.e.h, hF a.e.a, hF a.e.c, hF a.e.l⟩⟩, b⟩
section
variable {al base B nh : Nat} {P : Nat → PL} {W : Wd} {ad : Nat → Nat} {hs : Nat → Nat → Value} {w : World}
theorem GS.keep {w' : World} (h : GS al base B nh P W ad hs w) (hb : Below base w w')
    (hk : ∀ (g : Nat) (cs : Array Value) (t : Nat) (f : Nat × Nat), w.heap[g]? = some (Obj.cells cs t f) → t ≠ 3 → t ≠ 26 → w'.heap[g]? = some (Obj.cells cs t f)) : GS al base B nh P W ad hs w' := by
  refine ⟨⟨h.js.l.keep fun i hi => ?_, h.js.h.keep ?_, h.js.ge⟩, fun v hv => ?_, h.apt, h.blt⟩
  · have := h.js.l.bd i hi
    unfold JBead at this
    rw [this]
    exact hk _ _ _ _ this (by decide) (by decide)
  · obtain ⟨C, h1, _⟩ := h.js.h
    rw [h1]
    exact hk _ _ _ _ h1 (by decide) (by decide)
  · have H := h.ho v hv
    refine ⟨?_, H.way, H.head, H.idle, fun b hb' => ⟨(H.at_ b hb').1.keepB fun g cs t f a t1 => hk g cs t f a (by rcases t1 with e | e <;> rw [e] <;> decide) (by rcases t1 with e | e <;> rw [e] <;> decide), (H.at_ b hb').2⟩⟩
    obtain ⟨A, c, a1, a2, a3⟩ := H.jv.deeds
    exact ⟨H.jv.who, H.jv.le, ⟨A, c, a1, a2.low0 a3 hb, a3⟩, H.jv.done.keep fun g hg => by
      obtain ⟨cs, h1, _⟩ := H.jv.done.blk hg
      rw [h1]
      exact hk _ _ _ _ h1 (by decide) (by decide)⟩
theorem GS.iset (h : GS al base B nh P W ad hs w) {g : Nat} {x : Int} (hg : IBox w g x) (hb : base ≤ g) (u : Value) : GS al base B nh P W ad hs (w.setCell ⟨g, 0, none⟩ u) :=
  h.keep ((Below.refl _ _).setCell (p := ⟨g, 0, none⟩) hb u) fun g' cs t f a b _ => by
    rw [Below.heap_setCell _ _ _ _ (fun e => by
      have hg' : w.heap[g]? = _ := hg
      rw [show g' = g from e, hg'] at a
      injection a with a
      injection a with _ a
      exact b a.symm)]
    exact a
theorem DL_len (v : Nat) (h : W.bg v = none) : (DL W v).length = W.ix v := by unfold DL; rw [h]; simp
set_option maxRecDepth 100000 in
set_option maxHeartbeats 4000000 in
theorem hasDeeds_any {v : Nat} (h : GS al base B nh P W ad hs w) (hal : al = 1 ∨ al = 2 ∨ al = 3 ∨ al = 4) (hv : v < nh) {b : Bool} (hb : decide (W.ix v < (P v).length) = b) :
    Calls Try.prog 35 #[.pointer (some ⟨B, v * 9, none⟩)] w fun e w' => e = .returned (.bool b) ∧ ∃ m, w' = w.drewN m := by
  have H := h.ho v hv
  have c7 := h.js.h.cell hv (i := 7) (by omega)
  cases hbg : W.bg v with
  | some b0 =>
    have hlt := h.blt v b0 hbg
    obtain rfl : b = true := by rw [← hb]; simpa using hlt
    obtain ⟨k, caps, e7, -⟩ := (H.at_ b0 hbg).1.func hal
    rw [e7] at c7
    have hq : ∀ w : World, (binOp .neq 1 (.func (.func k) #[] caps) .nilFunc).run Try.prog w = .ok (.bool true) w := fun _ => by kernel_rfl
    clear h H hbg hlt e7 hb
    go_enter Try.func35, Try.ntmps35
    go_wp2
    go_quiet (fail)
    go_wp2
    go_ret
    exact ⟨by first | rfl | simp, _, rfl⟩
  | none =>
    rw [H.idle hbg] at c7
    have c1 := h.js.h.cell hv (i := 1) (by omega)
    have c2 := h.js.h.cell hv (i := 2) (by omega)
    obtain ⟨A, c, e1, -, -⟩ := H.jv.deeds
    obtain ⟨DA, dc, e2, -⟩ := H.jv.done.is_
    rw [e1] at c1
    rw [e2, DL_len v hbg] at c2
    have hq : ∀ w : World, (binOp .neq 1 .nilFunc .nilFunc).run Try.prog w = .ok (.bool false) w := fun _ => by kernel_rfl
    generalize W.ix v = m at *
    generalize (P v).length = n at *
    subst hb
    clear h H hbg e1 e2
    go_enter Try.func35, Try.ntmps35
    go_wp2
    go_quiet (fail)
    go_wp2
    go_ret
    exact ⟨by first | rfl | simp, _, rfl⟩

def TBk (w : World) (g : Nat) : Prop := w.heap[g]? = some (.cells #[.slice none 0 0, .slice none 0 0] 26 (0, 0))
structure JRS (al base B nh : Nat) (P : Nat → PL) (z sb mb tb : Nat) (W : Wd) (w : World) : Prop where
  gs : ∃ ad hs, GS al base B nh P W ad hs w ∧ ad 0 = z
  st : IBox w sb W.now
  mo : IBox w mb 4000
  ge : base ≤ sb
  ne : mb ≠ sb
  le : W.now ≤ 4000
  tk : TBk w tb
theorem JRS.drewN {z sb mb tb : Nat} (h : JRS al base B nh P z sb mb tb W w) (n : Nat) : JRS al base B nh P z sb mb tb W (w.drewN n) := by
  obtain ⟨ad, hs, hg, h0⟩ := h.gs
  exact ⟨⟨ad, hs, hg.keep (below_drewN (Below.refl _ _) n) (fun _ _ _ _ a _ _ => a), h0⟩, h.st, h.mo, h.ge, h.ne, h.le, h.tk⟩
def Wd.may (A : Alg) (P : Nat → PL) (W : Wd) (v : Nat) : Wd := if W.now < 4000 ∧ W.ix v < (P v).length then W.go A (dds P) v else W
set_option maxRecDepth 100000 in
set_option maxHeartbeats 4000000 in
theorem give_any {v z sb mb tb : Nat} (h : JRS al base B nh P z sb mb tb W w) (hok : Okay al P W) (hal : al = 1 ∨ al = 2 ∨ al = 3 ∨ al = 4) (hv : v < nh) {b : Bool} (hb : (decide (W.now < 4000) && decide (W.ix v < (P v).length)) = b) :
    Calls Try.prog 34 #[.pointer (some ⟨B, v * 9, none⟩), jp sb, jp mb] w fun e w' => e = .returned (.bool b) ∧ JRS al base B nh P z sb mb tb (W.may (alg al) P v) w' ∧ Below base w w' := by
  have H := Lib.hid h
  have cs := h.st.cell
  have cm := h.mo.cell
  by_cases h4 : W.now < 4000
  · by_cases hi : W.ix v < (P v).length
    · obtain rfl : b = true := by rw [← hb]; simp [h4, hi]
      obtain ⟨ad, hs, hg, h0⟩ := h.gs
      have HD : Hid (Calls Try.prog 35 #[.pointer (some ⟨B, v * 9, none⟩)] w fun e w' => e = .returned (.bool true) ∧ ∃ m, w' = w.drewN m) := hasDeeds_any hg hal hv (by simpa using hi)
      have HS : Hid (∀ m, Calls Try.prog 36 #[.pointer (some ⟨B, v * 9, none⟩), I W.now] (w.drewN m) fun e w' => e = .returned (.tuple #[]) ∧ ∃ ad' hs', GS al base B nh P (W.go (alg al) (dds P) v) ad' hs' w' ∧ JR base (w.drewN m) w' ∧ ad' 0 = ad 0) := fun m => gstep_any (hg.keep (below_drewN (Below.refl _ _) m) (fun _ _ _ _ a _ _ => a)) hok hv hi
      have HM : Hid (W.may (alg al) P v = W.go (alg al) (dds P) v) := by show _ = _; unfold Wd.may; rw [if_pos ⟨h4, hi⟩]
      obtain ⟨n, hn⟩ : ∃ n, W.now = n := ⟨_, rfl⟩
      have HN := Lib.hid hn
      have H0 := Lib.hid h0
      rw [hn] at cs HS h4
      have hne : ¬ (n : Int) = 4000 := by omega
      have hw1 : IntKind.i64.wrap ((n : Int) + 1) = (n : Int) + 1 := IntWalk.i64_in _ (by omega)
      clear h hg h0 hok hn hi hb
      go_enter Try.func34, Try.ntmps34
      go_wp2_with fail
      refine HD.out.mono ?_
      rintro e w1 ⟨rfl, m, rfl⟩
      go_wp2_with fail
      refine (HS.out _).mono ?_
      rintro e w2 ⟨rfl, ad', hs', hg2, hr2, h02⟩
      have hst2 : IBox w2 sb n := by have := H.out.st; rw [HN.out] at this; exact IBox.keepR (w := w.drewN m) this hr2
      have cs2 := hst2.cell
      have fs2 := jfroz (i := 0) hst2
      have HST2 := Lib.hid hst2
      have HMO2 : Hid (IBox w2 mb 4000) := IBox.keepR (w := w.drewN m) H.out.mo hr2
      have HTK2 : Hid (TBk w2 tb) := hr2.kp _ _ _ _ (show (w.drewN m).heap[tb]? = _ from H.out.tk) (by decide) (by decide) (by decide)
      have HG2 := Lib.hid hg2
      have HR2 := Lib.hid hr2
      have H02 := Lib.hid h02
      clear hg2 hr2 h02 hst2
      go_wp2
      go_ret
      refine ⟨rfl, ?_, ?_⟩
      · rw [HM.out]
        have hnw : (W.go (alg al) (dds P) v).now = n + 1 := by show W.now + 1 = n + 1; rw [HN.out]
        refine ⟨⟨ad', hs', HG2.out.iset HST2.out H.out.ge _, H02.out.trans H0.out⟩, ?_, HMO2.out.far H.out.ne _, H.out.ge, H.out.ne, by rw [hnw]; omega, ?_⟩
        · rw [hnw]
          have := HST2.out.set ((n : Int) + 1)
          simpa using this
        · have ht := HTK2.out
          unfold TBk at ht ⊢
          rw [Below.heap_setCell _ _ _ _ (fun e => by
            have hs := HST2.out
            unfold IBox at hs
            rw [show tb = sb from e, hs] at ht
            injection ht with ht
            injection ht with _ ht
            exact absurd ht (by decide))]
          exact ht
      · exact (Below.trans (below_drewN (Below.refl _ _) m) HR2.out.bl).setCell (p := ⟨sb, 0, none⟩) H.out.ge _
    · obtain rfl : b = false := by rw [← hb]; simp [hi]
      obtain ⟨ad, hs, hg, h0⟩ := h.gs
      have HD : Hid (Calls Try.prog 35 #[.pointer (some ⟨B, v * 9, none⟩)] w fun e w' => e = .returned (.bool false) ∧ ∃ m, w' = w.drewN m) := hasDeeds_any hg hal hv (by simpa using hi)
      have HM : Hid (W.may (alg al) P v = W) := by show _ = _; unfold Wd.may; rw [if_neg (fun e => hi e.2)]
      obtain ⟨n, hn⟩ : ∃ n, W.now = n := ⟨_, rfl⟩
      rw [hn] at cs h4
      have hne : ¬ (n : Int) = 4000 := by omega
      clear h hg h0 hok hn hi hb
      go_enter Try.func34, Try.ntmps34
      go_wp2_with fail
      refine HD.out.mono ?_
      rintro e w1 ⟨rfl, m, rfl⟩
      go_wp2
      go_ret
      exact ⟨rfl, by rw [HM.out]; exact H.out.drewN _, below_drewN (Below.refl _ _) _⟩
  · obtain rfl : b = false := by rw [← hb]; simp [h4]
    have hn : W.now = 4000 := by have := h.le; omega
    have HM : Hid (W.may (alg al) P v = W) := by show _ = _; unfold Wd.may; rw [if_neg (fun e => h4 e.1)]
    rw [hn] at cs
    clear h hok hn h4 hb
    go_enter Try.func34, Try.ntmps34
    go_wp2
    go_ret
    exact ⟨rfl, by rw [HM.out]; exact H.out, Below.refl _ _⟩
end

end Go.Proofs.Ytfmdpmebllepeaa

/-
  Hands stand at beads that are there, whatever the way: plain mathematics beside the program's ways.
-/
namespace Go.Proofs.Ytfmdpmebllepeaa

theorem over_pc {s : Bs} {lk : Nat → Bool} {q : Hd} {kd K : Int} (hC : Cor s) (hK : 0 ≤ K ∧ K ≤ 9) (hp : q.p < s.sz) (hc : q.c < s.sz) :
    s.sz ≤ (overS s lk q kd K).s.sz ∧ (overS s lk q kd K).s.sz ≤ s.sz + 1 ∧ (overS s lk q kd K).h.p < s.sz ∧ (overS s lk q kd K).h.c < s.sz := by
  have h0 := hC.nlt 0 hC.pos (fun e => hC.hd e.symm)
  have hz := hC.pos
  have hn : s.key q.c < K → s.nx q.c < s.sz := fun h => hC.nlt _ hc fun e => by rw [e, hC.kt] at h; omega
  unfold overS
  repeat' split
  all_goals first
    | exact ⟨Nat.le_refl _, Nat.le_succ _, hp, hc⟩
    | exact ⟨Nat.le_succ _, Nat.le_refl _, hp, hc⟩
    | exact ⟨Nat.le_refl _, Nat.le_succ _, hz, h0⟩
    | exact ⟨Nat.le_refl _, Nat.le_succ _, hc, hn (by assumption)⟩
theorem lazy_pc {s : Bs} {lk : Nat → Bool} {q : Hd} {kd K : Int} (hC : Cor s) (hK : 0 ≤ K ∧ K ≤ 9) (hp : q.p < s.sz) (hc : q.c < s.sz) :
    s.sz ≤ (lazyS s lk q kd K).s.sz ∧ (lazyS s lk q kd K).s.sz ≤ s.sz + 1 ∧ (lazyS s lk q kd K).h.p < s.sz ∧ (lazyS s lk q kd K).h.c < s.sz := by
  have h0 := hC.nlt 0 hC.pos (fun e => hC.hd e.symm)
  have hz := hC.pos
  have hn : s.key q.c < K → s.nx q.c < s.sz := fun h => hC.nlt _ hc fun e => by rw [e, hC.kt] at h; omega
  unfold lazyS
  repeat' split
  all_goals first
    | exact ⟨Nat.le_refl _, Nat.le_succ _, hp, hc⟩
    | exact ⟨Nat.le_succ _, Nat.le_refl _, hp, hc⟩
    | exact ⟨Nat.le_refl _, Nat.le_succ _, hz, h0⟩
    | exact ⟨Nat.le_refl _, Nat.le_succ _, hc, hn (by assumption)⟩
theorem mark_pc {s : Bs} {q : Hd} {kd K : Int} (hC : Cor s) (hK : 0 ≤ K ∧ K ≤ 9) (hp : q.p < s.sz) (hc : q.c < s.sz) :
    s.sz ≤ (markS s q kd K).s.sz ∧ (markS s q kd K).s.sz ≤ s.sz + 1 ∧ (markS s q kd K).h.p < s.sz ∧ (markS s q kd K).h.c < s.sz := by
  have h0 := hC.nlt 0 hC.pos (fun e => hC.hd e.symm)
  have hz := hC.pos
  have hn : s.key q.c < K → s.nx q.c < s.sz := fun h => hC.nlt _ hc fun e => by rw [e, hC.kt] at h; omega
  have hm : s.mrk q.c = true ∧ kd ≠ 3 → s.nx q.c < s.sz := fun h => hC.nlt _ hc fun e => by rw [e, hC.mt] at h; exact absurd h.1 (by decide)
  unfold markS
  repeat' split
  all_goals first
    | exact ⟨Nat.le_refl _, Nat.le_succ _, hp, hc⟩
    | exact ⟨Nat.le_succ _, Nat.le_refl _, hp, hc⟩
    | exact ⟨Nat.le_refl _, Nat.le_succ _, hz, h0⟩
    | exact ⟨Nat.le_refl _, Nat.le_succ _, hc, hn (by assumption)⟩
    | exact ⟨Nat.le_refl _, Nat.le_succ _, hp, hm (by assumption)⟩
theorem naive_pc {s : Bs} {q : Hd} {kd K : Int} (hC : NCor s) (hK : 0 ≤ K ∧ K ≤ 9) (hp : q.p < s.sz) (hc : q.c < s.sz) :
    s.sz ≤ (naiveS s q kd K).s.sz ∧ (naiveS s q kd K).s.sz ≤ s.sz + 1 ∧ (naiveS s q kd K).h.p < s.sz ∧ (naiveS s q kd K).h.c < s.sz := by
  have hz := hC.pos
  have h0 := hC.nlt 0 hz (fun e => hC.hd e.symm)
  have hn : s.key q.c < K → s.nx q.c < s.sz := fun h => hC.nlt _ hc fun e => by rw [e, hC.kt] at h; omega
  unfold naiveS
  repeat' split
  all_goals first
    | exact ⟨Nat.le_refl _, Nat.le_succ _, hp, hc⟩
    | exact ⟨Nat.le_succ _, Nat.le_refl _, hp, hc⟩
    | exact ⟨Nat.le_refl _, Nat.le_succ _, hz, h0⟩
    | exact ⟨Nat.le_refl _, Nat.le_succ _, hc, hn (by assumption)⟩
theorem pc_step {al : Nat} {s : Bs} {lk : Nat → Bool} {q : Hd} {kd K : Int} (hj : JC al s lk q kd K) (hp : q.p < s.sz) (hc : q.c < s.sz) :
    s.sz ≤ ((alg al).step s lk q kd K).s.sz ∧ ((alg al).step s lk q kd K).s.sz ≤ s.sz + 1 ∧ ((alg al).step s lk q kd K).h.p < s.sz ∧ ((alg al).step s lk q kd K).h.c < s.sz := by
  rcases hj.c with ⟨rfl, a, _⟩ | ⟨rfl, a, _⟩ | ⟨rfl, a, _⟩ | ⟨rfl, a, _⟩
  · exact over_pc a.cor hj.d.1 hp hc
  · exact lazy_pc a hj.d.1 hp hc
  · exact mark_pc a hj.d.1 hp hc
  · exact naive_pc a hj.d.1 hp hc
structure PCI (W : Wd) : Prop where
  pc : ∀ v, (W.hs v).p < W.s.sz ∧ (W.hs v).c < W.s.sz
  sz : W.s.sz ≤ 12 + W.now
theorem PCI.go {al : Nat} {P : Nat → PL} {W : Wd} {v : Nat} (h : PCI W) (hok : Okay al P W) (hi : W.ix v < (P v).length) : PCI (W.go (alg al) (dds P) v) := by
  obtain ⟨hJ, _⟩ := hok v hi
  obtain ⟨h1, h2, h3, h4⟩ := pc_step hJ (h.pc v).1 (h.pc v).2
  have hz := hJ.pos
  refine ⟨fun v' => ?_, ?_⟩
  · show (upd W.hs v ((alg al).step W.s W.lk (W.hs v) (dds P v (W.ix v)).1 (dds P v (W.ix v)).2).nh v').p < ((alg al).step W.s W.lk (W.hs v) (dds P v (W.ix v)).1 (dds P v (W.ix v)).2).s.sz ∧ (upd W.hs v ((alg al).step W.s W.lk (W.hs v) (dds P v (W.ix v)).1 (dds P v (W.ix v)).2).nh v').c < ((alg al).step W.s W.lk (W.hs v) (dds P v (W.ix v)).1 (dds P v (W.ix v)).2).s.sz
    by_cases e : v' = v
    · rw [e, upd_same]
      unfold Rel.nh
      split
      · exact ⟨Nat.lt_of_lt_of_le hz h1, Nat.lt_of_lt_of_le hz h1⟩
      · exact ⟨Nat.lt_of_lt_of_le h3 h1, Nat.lt_of_lt_of_le h4 h1⟩
    · rw [upd_other _ _ e]
      exact ⟨Nat.lt_of_lt_of_le (h.pc v').1 h1, Nat.lt_of_lt_of_le (h.pc v').2 h1⟩
  · show ((alg al).step W.s W.lk (W.hs v) (dds P v (W.ix v)).1 (dds P v (W.ix v)).2).s.sz ≤ 12 + (W.now + 1)
    have := h.sz
    omega
theorem PCI.begin_ {l : List Int} (h : l.length ≤ 10) : PCI (Wd.begin_ l) := ⟨fun _ => ⟨by show 0 < l.length + 2; omega, by show 0 < l.length + 2; omega⟩, by show l.length + 2 ≤ 12 + 0; omega⟩
end Go.Proofs.Ytfmdpmebllepeaa
