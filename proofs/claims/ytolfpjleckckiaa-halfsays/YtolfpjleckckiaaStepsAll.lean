/-
  Joined texts: YtolfpjleckckiaaLives, YtolfpjleckckiaaSteps.
-/
import Derived.Test.YtolfpjleckckiaaRunAAll
import Derived.Test.YtolfpjleckckiaaMaps
/-
  plainLives.
-/
namespace Go.Proofs.Ytolfpjleckckiaa
open Go.RowKit

abbrev livesOps : List OP := [(1, 7, 1), (1, 3, 2), (4, 3, 0), (3, 7, 0)]
theorem lives_run : runR livesOps = ([(3, 2)], [an0, an0, ⟨0, 7, 1, true⟩, ⟨0, 0, 1, true⟩]) := by decide +kernel
abbrev livesO : Obj := .cells #[I 1, I 7, I 1, I 1, I 3, I 2, I 4, I 3, I 0, I 3, I 7, I 0] 39
theorem lives_os (w : World) : OS (w.alloc livesO) (some ⟨w.heap.size, 0, none⟩) 4 4 livesOps := by
  refine ⟨rfl, Nat.le_refl _, fun _ => ⟨w.heap.size, 0, rfl, by simp, fun i hi j hj => ?_⟩⟩
  have hh : (w.alloc livesO).heap[w.heap.size]? = some livesO := heap_alloc_new w _
  have h4 : i = 0 ∨ i = 1 ∨ i = 2 ∨ i = 3 := by omega
  have h3 : j = 0 ∨ j = 1 ∨ j = 2 := by omega
  rcases h4 with rfl | rfl | rfl | rfl <;> rcases h3 with rfl | rfl | rfl <;> (rw [cell_of_row _ _ _ _ _ _ hh]; rfl)

end Go.Proofs.Ytolfpjleckckiaa

/-
  Small steps for laws that call Do again and again: what is carried from world to world; what Do answers of a right map.
-/
namespace Go.Proofs.Ytolfpjleckckiaa
open Go.RowKit

abbrev ansOf (a : An) : Obj := .cells #[I a.e, I a.k, I a.v, .bool a.b] 36
/-- block g is the answer a -/
def AA (w : World) (g : Nat) (a : An) : Prop := w.heap[g]? = some (.cells #[I a.e, I a.k, I a.v, .bool a.b] 36 (0, 0))
theorem AA.lt {w : World} {g : Nat} {a : An} (h : AA w g a) : g < w.heap.size := by
  rcases Nat.lt_or_ge g w.heap.size with hlt | hge
  · exact hlt
  · unfold AA at h; rw [Array.getElem?_eq_none hge] at h; cases h
theorem AA.below {w w' : World} {g : Nat} {a : An} (h : AA w g a) (hb : Below w.heap.size w w') : AA w' g a := (hb.block g h.lt).trans h
theorem AA.alloc {w : World} {g : Nat} {a : An} (h : AA w g a) (o : Obj) : AA (w.alloc o) g a := h.below ((Below.refl _ _).alloc (Nat.le_refl _) _)
theorem AA.step {w w' : World} {g : Nat} {a : An} {o : Obj} (h : AA w g a) (hb : Below (w.alloc o).heap.size (w.alloc o) w') : AA w' g a := (h.alloc o).below hb
theorem AA.new (w : World) (a : An) : AA (w.alloc (ansOf a)) w.heap.size a := heap_alloc_new w _
theorem AA.made {w w' : World} {a : An} (hb : Below (w.alloc (ansOf a)).heap.size (w.alloc (ansOf a)) w') : AA w' w.heap.size a := (AA.new w a).below hb
theorem AA.facts {w : World} {g : Nat} {a : An} (h : AA w g a) : w.cell? ⟨g, 0, none⟩ = some (I a.e) ∧ w.cell? ⟨g, 1, none⟩ = some (I a.k) ∧ w.cell? ⟨g, 2, none⟩ = some (I a.v) ∧ w.cell? ⟨g, 3, none⟩ = some (.bool a.b) := by
  unfold AA at h
  refine ⟨?_, ?_, ?_, ?_⟩ <;> simp [World.cell?, h]
theorem AA.free {w : World} {g : Nat} {a : An} (h : AA w g a) : w.frozen? ⟨g, 0, none⟩ = false ∧ w.frozen? ⟨g, 1, none⟩ = false ∧ w.frozen? ⟨g, 2, none⟩ = false ∧ w.frozen? ⟨g, 3, none⟩ = false := by
  unfold AA at h
  refine ⟨?_, ?_, ?_, ?_⟩ <;> simp [World.frozen?, h]
theorem AA.st4 {w : World} {g : Nat} {a : An} (h : AA w g a) (e k v : Int) (b : Bool) : AA (st4 w g e k v b) g ⟨e, k, v, b⟩ := by
  unfold AA at *
  have h' : w.heap[g]? = some (.cells ([I a.e, I a.k, I a.v, .bool a.b] : List Value).toArray 36 (0, 0)) := h
  have := cells_set (cells_set (cells_set (cells_set h' 0 (I e)) 1 (I k)) 2 (I v)) 3 (.bool b)
  simpa using this
theorem AA.drewN {w : World} {g : Nat} {a : An} (h : AA w g a) (n : Nat) : AA (w.drewN n) g a := h
theorem below_step {w w1 w' : World} {o : Obj} (h : Below w.heap.size w w1) (hb : Below (w1.alloc o).heap.size (w1.alloc o) w') : Below w.heap.size w w' :=
  (h.alloc h.size o).trans (hb.mono (by have := h.size; simp; omega))
theorem PS.step {w w' : World} {n c : Nat} {A : Option Addr} {l : PL} {o : Obj} (h : PS w A n c l) (hb : Below (w.alloc o).heap.size (w.alloc o) w') : PS w' A n c l := (h.alloc o).below hb

theorem Do_is (A : Option Addr) (n c : Nat) (l : PL) (kind key val : Int) (w : World) (h : PS w A n c l) (hn : n ≤ 9223372036854775807) (L : PL) (a : An) (hL : doL l kind key val = L) (ha : doA l kind key = a) :
    Calls Try.prog 28 #[.slice A n c, .agg #[I kind, I key, I val]] w (RetPA L a w) := by
  subst hL ha
  exact Do_any A n c l kind key val w h hn

theorem doA_bad {l : PL} (h : chk l ≠ 0) (kind key : Int) : doA l kind key = ⟨chk l, 0, 0, false⟩ := by unfold doA; rw [if_pos h]
theorem doL_bad {l : PL} (h : chk l ≠ 0) (kind key val : Int) : doL l kind key val = [] := by unfold doL; rw [if_pos h]
theorem doA_count {l : PL} (h : chk l = 0) (key : Int) : doA l 6 key = ⟨0, 0, cnt l key, true⟩ := by simp [doA, h, opB, lookA]
theorem doA_nth {l : PL} (h : chk l = 0) (key : Int) : doA l 7 key = pairA l key := by simp [doA, h, opB, lookA]
theorem doA_get {l : PL} (h : chk l = 0) (key : Int) : doA l 2 key = if keyB key then getA l key else ⟨1, 0, 0, false⟩ := by
  cases hk : keyB key <;> simp [doA, h, opB, lookA, hk]
theorem doA_next {l : PL} (h : chk l = 0) (key : Int) (hk : keyB key = true) : doA l 4 key = pairA l (cnt l (key + 1)) := by simp [doA, h, opB, lookA, hk]
theorem doA_prev {l : PL} (h : chk l = 0) (key : Int) (hk : keyB key = true) : doA l 5 key = pairA l (cnt l key - 1) := by simp [doA, h, opB, lookA, hk]
theorem doA_put {l : PL} (h : chk l = 0) (key : Int) : doA l 1 key = if keyB key then putA l key else ⟨1, 0, 0, false⟩ := by
  cases hk : keyB key <;> simp [doA, h, opB, hk]
theorem doL_put {l : PL} (h : chk l = 0) (key v : Int) : doL l 1 key v = if keyB key then putL l key v else l := by
  cases hk : keyB key <;> simp [doL, h, opB, hk]
theorem doA_cut {l : PL} (h : chk l = 0) (key : Int) : doA l 3 key = if keyB key then getA l key else ⟨1, 0, 0, false⟩ := by
  cases hk : keyB key <;> simp [doA, h, opB, hk]
theorem doL_cut {l : PL} (h : chk l = 0) (key v : Int) : doL l 3 key v = if keyB key then cutL l key else l := by
  cases hk : keyB key <;> simp [doL, h, opB, hk]

theorem srt_at (l : PL) : ∀ lo, Srt lo l → ∀ i (h : i < l.length), lo ≤ l[i].1 ∧ l[i].1 ≤ 1000000 := by
  induction l with
  | nil => intro lo _ i h; simp at h
  | cons p t ih =>
    intro lo hs i h
    cases i with
    | zero => exact ⟨hs.1, hs.2.1⟩
    | succ i =>
      have := ih _ hs.2.2 i (by simpa using h)
      simp only [List.getElem_cons_succ]
      have := hs.1
      omega
theorem cnt_low (l : PL) (k : Int) : ∀ lo, Srt lo l → k ≤ lo → cnt l k = 0 := by
  intro lo h hk
  cases l with
  | nil => simp [cnt]
  | cons p t => exact cnt_cons_ge (by have := h.1; omega)
theorem cnt_at (l : PL) : ∀ lo, Srt lo l → ∀ i (h : i < l.length), cnt l l[i].1 = i ∧ cnt l (l[i].1 + 1) = i + 1 := by
  induction l with
  | nil => intro lo _ i h; simp at h
  | cons p t ih =>
    intro lo hs i h
    cases i with
    | zero =>
      simp only [List.getElem_cons_zero]
      rw [cnt_cons_ge (by omega), cnt_cons_lt (by omega), cnt_low t _ _ hs.2.2 (by omega)]
      exact ⟨rfl, rfl⟩
    | succ i =>
      have hl : i < t.length := by simpa using h
      have h1 := ih _ hs.2.2 i hl
      have h2 := srt_at t _ hs.2.2 i hl
      simp only [List.getElem_cons_succ]
      rw [cnt_cons_lt (by omega), cnt_cons_lt (by omega), h1.1, h1.2]
      exact ⟨rfl, rfl⟩
theorem cnt_mono (l : PL) (a b : Int) (h : a ≤ b) : cnt l a ≤ cnt l b := by
  induction l with
  | nil => simp [cnt]
  | cons p t ih =>
    by_cases h1 : p.1 < a
    · rw [cnt_cons_lt h1, cnt_cons_lt (by omega)]; omega
    · rw [cnt_cons_ge h1]; omega
theorem key_at {l : PL} (h : chk l = 0) {i : Nat} (hi : i < l.length) : keyB l[i].1 = true := by
  have := srt_at l 0 ((chk_zero l).1 h).2 i hi
  simp [keyB]
  omega

end Go.Proofs.Ytolfpjleckckiaa
