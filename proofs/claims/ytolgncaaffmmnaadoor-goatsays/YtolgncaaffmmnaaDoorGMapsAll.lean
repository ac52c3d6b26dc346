/-
  Joined texts: YtolgncaaffmmnaaDoorLives, YtolgncaaffmmnaaDoorSteps, YtolgncaaffmmnaaDoorRunC, YtolgncaaffmmnaaDoorGMaps.
-/
import Derived.Test.YtolgncaaffmmnaaDoorRunAll
import Derived.Test.YtolgncaaffmmnaaDoorMaps
import Derived.Test.YtolgncaaffmmnaaDoorGPure
/-
  plainLives.
-/
namespace Go.Proofs.YtolgncaaffmmnaaDoor
open Go.RowKit

abbrev livesOps : List OP := [(1, 7, 1), (1, 3, 2), (4, 3, 0), (3, 7, 0)]
theorem lives_run : runR livesOps = ([(3, 2)], [an0, an0, ⟨0, 7, 1, true⟩, ⟨0, 0, 1, true⟩]) := by decide +kernel
abbrev livesO : Obj := .cells #[I 1, I 7, I 1, I 1, I 3, I 2, I 4, I 3, I 0, I 3, I 7, I 0] 53
theorem lives_os (w : World) : OS (w.alloc livesO) (some ⟨w.heap.size, 0, none⟩) 4 4 livesOps := by
  refine ⟨rfl, Nat.le_refl _, fun _ => ⟨w.heap.size, 0, rfl, by simp, fun i hi j hj => ?_⟩⟩
  have hh : (w.alloc livesO).heap[w.heap.size]? = some livesO := heap_alloc_new w _
  have h4 : i = 0 ∨ i = 1 ∨ i = 2 ∨ i = 3 := by omega
  have h3 : j = 0 ∨ j = 1 ∨ j = 2 := by omega
  rcases h4 with rfl | rfl | rfl | rfl <;> rcases h3 with rfl | rfl | rfl <;> (rw [cell_of_row _ _ _ _ _ _ hh]; rfl)

end Go.Proofs.YtolgncaaffmmnaaDoor

/-
  Small steps for laws that call Do again and again: what is carried from world to world; what Do answers of a right map.
-/
namespace Go.Proofs.YtolgncaaffmmnaaDoor
open Go.RowKit

abbrev ansOf (a : An) : Obj := .cells #[I a.e, I a.k, I a.v, .bool a.b] 47
/-- block g is the answer a -/
def AA (w : World) (g : Nat) (a : An) : Prop := w.heap[g]? = some (.cells #[I a.e, I a.k, I a.v, .bool a.b] 47 (0, 0))
theorem AA.lt {w : World} {g : Nat} {a : An} (h : AA w g a) : g < w.heap.size := by
  rcases Nat.lt_or_ge g w.heap.size with hlt | hge
  · exact hlt
  · unfold AA at h; rw [Array.getElem?_eq_none hge] at h; cases h
theorem AA.below {w w' : World} {g : Nat} {a : An} (h : AA w g a) (hb : Below w.heap.size w w') : AA w' g a := (hb.block g h.lt).trans h
theorem AA.alloc {w : World} {g : Nat} {a : An} (h : AA w g a) (o : Obj) : AA (w.alloc o) g a := h.below ((Below.refl _ _).alloc (Nat.le_refl _) _)
theorem AA.step {w w' : World} {g : Nat} {a : An} {o : Obj} (h : AA w g a) (hb : Below (w.alloc o).heap.size (w.alloc o) w') : AA w' g a := (h.alloc o).below hb
theorem AA.new (w : World) (a : An) : AA (w.alloc (ansOf a)) w.heap.size a := heap_alloc_new w _
theorem AA.made {w w' : World} {a : An} (hb : Below (w.alloc (ansOf a)).heap.size (w.alloc (ansOf a)) w') : AA w' w.heap.size a := (AA.new w a).below hb
theorem AA.facts {w : World} {g : Nat} {a : An} (h : AA w g a) : w.cell? ⟨g, 0, none⟩ = some (I a.e) ∧ w.cell? ⟨g, 1, none⟩ = some (I a.k) ∧ w.cell? ⟨g, 2, none⟩ = some (I a.v) ∧ w.cell? ⟨g, 3, none⟩ = some (.bool a.b) := by
  unfold AA at h
  refine ⟨?_, ?_, ?_, ?_⟩ <;> simp [World.cell?, h]
theorem AA.free {w : World} {g : Nat} {a : An} (h : AA w g a) : w.frozen? ⟨g, 0, none⟩ = false ∧ w.frozen? ⟨g, 1, none⟩ = false ∧ w.frozen? ⟨g, 2, none⟩ = false ∧ w.frozen? ⟨g, 3, none⟩ = false := by
  unfold AA at h
  refine ⟨?_, ?_, ?_, ?_⟩ <;> simp [World.frozen?, h]
theorem AA.st4 {w : World} {g : Nat} {a : An} (h : AA w g a) (e k v : Int) (b : Bool) : AA (st4 w g e k v b) g ⟨e, k, v, b⟩ := by
  unfold AA at *
  have h' : w.heap[g]? = some (.cells ([I a.e, I a.k, I a.v, .bool a.b] : List Value).toArray 47 (0, 0)) := h
  have := cells_set (cells_set (cells_set (cells_set h' 0 (I e)) 1 (I k)) 2 (I v)) 3 (.bool b)
  simpa using this
theorem AA.drewN {w : World} {g : Nat} {a : An} (h : AA w g a) (n : Nat) : AA (w.drewN n) g a := h
theorem below_step {w w1 w' : World} {o : Obj} (h : Below w.heap.size w w1) (hb : Below (w1.alloc o).heap.size (w1.alloc o) w') : Below w.heap.size w w' :=
  (h.alloc h.size o).trans (hb.mono (by have := h.size; simp; omega))
theorem PS.step {w w' : World} {n c : Nat} {A : Option Addr} {l : PL} {o : Obj} (h : PS w A n c l) (hb : Below (w.alloc o).heap.size (w.alloc o) w') : PS w' A n c l := (h.alloc o).below hb

theorem Do_is (A : Option Addr) (n c : Nat) (l : PL) (kind key val : Int) (w : World) (h : PS w A n c l) (hn : n ≤ 9223372036854775807) (L : PL) (a : An) (hL : doL l kind key val = L) (ha : doA l kind key = a) :
    Calls Tryd.prog 46 #[.slice A n c, .agg #[I kind, I key, I val]] w (RetPA L a w) := by
  subst hL ha
  exact Do_any A n c l kind key val w h hn

theorem doA_bad {l : PL} (h : chk l ≠ 0) (kind key : Int) : doA l kind key = ⟨chk l, 0, 0, false⟩ := by unfold doA; rw [if_pos h]
theorem doL_bad {l : PL} (h : chk l ≠ 0) (kind key val : Int) : doL l kind key val = [] := by unfold doL; rw [if_pos h]
theorem doA_count {l : PL} (h : chk l = 0) (key : Int) : doA l 6 key = ⟨0, 0, cnt l key, true⟩ := by simp [doA, h, opB, lookA]
theorem doA_nth {l : PL} (h : chk l = 0) (key : Int) : doA l 7 key = pairA l key := by simp [doA, h, opB, lookA]
theorem doA_get {l : PL} (h : chk l = 0) (key : Int) : doA l 2 key = if keyB key then getA l key else ⟨1, 0, 0, false⟩ := by
  cases hk : keyB key <;> simp [doA, h, opB, lookA, hk]
theorem doA_next {l : PL} (h : chk l = 0) (key : Int) (hk : keyB key = true) : doA l 4 key = pairA l (cnt l (key + 1)) := by simp [doA, h, opB, lookA, hk]
theorem doA_prev {l : PL} (h : chk l = 0) (key : Int) (hk : keyB key = true) : doA l 5 key = pairA l (cnt l key - 1) := by simp [doA, h, opB, lookA, hk]
theorem doA_put {l : PL} (h : chk l = 0) (key : Int) : doA l 1 key = if keyB key then putA l key else ⟨1, 0, 0, false⟩ := by
  cases hk : keyB key <;> simp [doA, h, opB, hk]
theorem doL_put {l : PL} (h : chk l = 0) (key v : Int) : doL l 1 key v = if keyB key then putL l key v else l := by
  cases hk : keyB key <;> simp [doL, h, opB, hk]
theorem doA_cut {l : PL} (h : chk l = 0) (key : Int) : doA l 3 key = if keyB key then getA l key else ⟨1, 0, 0, false⟩ := by
  cases hk : keyB key <;> simp [doA, h, opB, hk]
theorem doL_cut {l : PL} (h : chk l = 0) (key v : Int) : doL l 3 key v = if keyB key then cutL l key else l := by
  cases hk : keyB key <;> simp [doL, h, opB, hk]

theorem srt_at (l : PL) : ∀ lo, Srt lo l → ∀ i (h : i < l.length), lo ≤ l[i].1 ∧ l[i].1 ≤ 1000000 := by
  induction l with
  | nil => intro lo _ i h; simp at h
  | cons p t ih =>
    intro lo hs i h
    cases i with
    | zero => exact ⟨hs.1, hs.2.1⟩
    | succ i =>
      have := ih _ hs.2.2 i (by simpa using h)
      simp only [List.getElem_cons_succ]
      have := hs.1
      omega
theorem cnt_low (l : PL) (k : Int) : ∀ lo, Srt lo l → k ≤ lo → cnt l k = 0 := by
  intro lo h hk
  cases l with
  | nil => simp [cnt]
  | cons p t => exact cnt_cons_ge (by have := h.1; omega)
theorem cnt_at (l : PL) : ∀ lo, Srt lo l → ∀ i (h : i < l.length), cnt l l[i].1 = i ∧ cnt l (l[i].1 + 1) = i + 1 := by
  induction l with
  | nil => intro lo _ i h; simp at h
  | cons p t ih =>
    intro lo hs i h
    cases i with
    | zero =>
      simp only [List.getElem_cons_zero]
      rw [cnt_cons_ge (by omega), cnt_cons_lt (by omega), cnt_low t _ _ hs.2.2 (by omega)]
      exact ⟨rfl, rfl⟩
    | succ i =>
      have hl : i < t.length := by simpa using h
      have h1 := ih _ hs.2.2 i hl
      have h2 := srt_at t _ hs.2.2 i hl
      simp only [List.getElem_cons_succ]
      rw [cnt_cons_lt (by omega), cnt_cons_lt (by omega), h1.1, h1.2]
      exact ⟨rfl, rfl⟩
theorem cnt_mono (l : PL) (a b : Int) (h : a ≤ b) : cnt l a ≤ cnt l b := by
  induction l with
  | nil => simp [cnt]
  | cons p t ih =>
    by_cases h1 : p.1 < a
    · rw [cnt_cons_lt h1, cnt_cons_lt (by omega)]; omega
    · rw [cnt_cons_ge h1]; omega
theorem key_at {l : PL} (h : chk l = 0) {i : Nat} (hi : i < l.length) : keyB l[i].1 = true := by
  have := srt_at l 0 ((chk_zero l).1 h).2 i hi
  simp [keyB]
  omega

end Go.Proofs.YtolgncaaffmmnaaDoor

/-
  What Run leads to is right: plain lists.
-/
namespace Go.Proofs.YtolgncaaffmmnaaDoor
open Go.RowKit

theorem chk_doL {l : PL} (h : chk l = 0) (kind key val : Int) : chk (doL l kind key val) = 0 := by
  unfold doL
  rw [if_neg (by simpa using h)]
  cases ho : opB kind key with
  | false => simpa using h
  | true =>
    rw [if_neg (by simp)]
    split
    · rename_i hk
      subst hk
      have hk : keyB key = true := by simpa [opB] using ho
      rw [putL_eq]
      split
      · rename_i hr
        obtain ⟨h1, h2⟩ := (chk_zero l).1 h
        have hk' : 0 ≤ key ∧ key ≤ 1000000 := by simpa [keyB] using hk
        refine (chk_zero _).2 ⟨?_, srt_ins l key val 0 h2 hk'.1 hk'.2⟩
        rw [len_ins]
        split
        · exact h1
        · rcases hr with hr | hr
          · contradiction
          · omega
      · exact h
    · split
      · rw [cutL_eq]
        obtain ⟨h1, h2⟩ := (chk_zero l).1 h
        refine (chk_zero _).2 ⟨?_, srt_del l key 0 h2⟩
        rw [len_del]
        split <;> omega
      · exact h
theorem chk_runR (ops : List OP) : chk (runR ops).1 = 0 := by
  have h : ∀ (s : PL × List An), chk s.1 = 0 → chk (ops.foldl stepR s).1 = 0 := by
    induction ops with
    | nil => intro s hs; exact hs
    | cons o t ih => intro s hs; exact ih _ (chk_doL hs _ _ _)
  exact h ([], []) (by decide)

end Go.Proofs.YtolgncaaffmmnaaDoor

/-
  THE TREE AND THE MAP: what is put and taken away comes to both alike. Lists and trees alone.
-/
namespace Go.Proofs.YtolgncaaffmmnaaDoor

abbrev pk (l : PL) : List Int := l.map Prod.fst
theorem srt_ge : ∀ {l : PL} {a : Int}, Srt a l → ∀ y ∈ pk l, a ≤ y
  | [], _, _, y, h => by simp at h
  | p :: t, a, h, y, hy => by
    simp only [pk, List.map_cons, List.mem_cons] at hy
    rcases hy with rfl | hy
    · exact h.1
    · have := srt_ge h.2.2 y hy
      have := h.1
      omega
theorem srt_up : ∀ {l : PL} {a : Int}, Srt a l → Up (pk l)
  | [], _, _ => by simp [Up]
  | p :: t, a, h => by
    simp only [pk, Up, List.map_cons, List.pairwise_cons]
    refine ⟨fun y hy => ?_, srt_up h.2.2⟩
    have := srt_ge h.2.2 y hy
    omega
theorem get_mem : ∀ {l : PL} {a : Int} (k : Int), Srt a l → ((getR k l).isSome = true ↔ k ∈ pk l)
  | [], _, k, _ => by simp [getR]
  | p :: t, a, k, h => by
    unfold getR
    simp only [pk, List.map_cons, List.mem_cons]
    by_cases h1 : p.1 < k
    · rw [if_pos h1, get_mem k h.2.2]
      constructor
      · exact .inr
      · rintro (e | e)
        · omega
        · exact e
    · rw [if_neg h1]
      by_cases h2 : p.1 = k
      · rw [if_pos h2]
        simp [h2]
      · rw [if_neg h2]
        simp only [Option.isSome_none, Bool.false_eq_true, false_iff, not_or]
        refine ⟨fun e => h2 e.symm, fun e => ?_⟩
        have := srt_ge h.2.2 k e
        omega
theorem mem_insR (k v y : Int) : ∀ l : PL, y ∈ pk (insR k v l) ↔ y = k ∨ y ∈ pk l
  | [] => by simp [insR]
  | p :: t => by
    unfold insR
    by_cases h1 : p.1 < k
    · rw [if_pos h1]
      simp only [pk, List.map_cons, List.mem_cons]
      have := mem_insR k v y t
      simp only [pk] at this
      rw [this]
      constructor
      · rintro (h | h | h)
        · exact .inr (.inl h)
        · exact .inl h
        · exact .inr (.inr h)
      · rintro (h | h | h)
        · exact .inr (.inl h)
        · exact .inl h
        · exact .inr (.inr h)
    · rw [if_neg h1]
      by_cases h2 : p.1 = k
      · rw [if_pos h2]
        simp only [pk, List.map_cons, List.mem_cons]
        rw [h2]
        constructor
        · rintro (h | h)
          · exact .inl h
          · exact .inr (.inr h)
        · rintro (h | h | h)
          · exact .inl h
          · exact .inl h
          · exact .inr h
      · rw [if_neg h2]
        simp only [pk, List.map_cons, List.mem_cons]
theorem mem_delR (k y : Int) : ∀ {l : PL} {a : Int}, Srt a l → (y ∈ pk (delR k l) ↔ y ∈ pk l ∧ y ≠ k)
  | [], _, _ => by simp [delR]
  | p :: t, a, h => by
    unfold delR
    have hge := srt_ge h.2.2
    by_cases h1 : p.1 < k
    · rw [if_pos h1]
      simp only [pk, List.map_cons, List.mem_cons]
      have := mem_delR k y h.2.2
      simp only [pk] at this
      rw [this]
      constructor
      · rintro (e | e)
        · exact ⟨.inl e, by omega⟩
        · exact ⟨.inr e.1, e.2⟩
      · rintro ⟨e | e, hne⟩
        · exact .inl e
        · exact .inr ⟨e, hne⟩
    · rw [if_neg h1]
      by_cases h2 : p.1 = k
      · rw [if_pos h2]
        simp only [pk, List.map_cons, List.mem_cons]
        constructor
        · intro e
          have := hge y e
          exact ⟨.inr e, by omega⟩
        · rintro ⟨e | e, hne⟩
          · omega
          · exact e
      · rw [if_neg h2]
        simp only [pk, List.map_cons, List.mem_cons]
        constructor
        · rintro (e | e)
          · exact ⟨.inl e, by omega⟩
          · have := hge y e
            exact ⟨.inr e, by omega⟩
        · exact fun e => e.1

/-- what an op comes to: what tells an error does nothing -/
def grR (t : Tr) (o : OP) (a : An) : Tr := if a.e ≠ 0 then t else if o.1 = 1 then t.ins o.2.1 else if o.1 = 3 then t.del o.2.1 else t
/-- the tree and the map, side by side -/
structure Same (t : Tr) (l : PL) : Prop where
  chk : chk l = 0
  ks : t.ks = pk l
theorem Same.up {t : Tr} {l : PL} (h : Same t l) : Up t.ks := by rw [h.ks]; exact srt_up ((chk_zero l).1 h.chk).2
theorem Same.has {t : Tr} {l : PL} (h : Same t l) (k : Int) : (getR k l).isSome = true ↔ k ∈ t.ks := by rw [h.ks]; exact get_mem k ((chk_zero l).1 h.chk).2
/-- the ways that an op may go -/
theorem Same.ways {t : Tr} {l : PL} (h : Same t l) (kind key val : Int) :
    (doL l kind key val = l ∧ (doA l kind key).e ≠ 0) ∨
    ((doA l kind key).e = 0 ∧ kind = 1 ∧ (doA l kind key).b = true ∧ key ∈ t.ks ∧ pk (doL l kind key val) = pk l) ∨
    ((doA l kind key).e = 0 ∧ kind = 1 ∧ (doA l kind key).b = false ∧ key ∉ t.ks ∧ pk (doL l kind key val) = (t.ins key).ks) ∨
    ((doA l kind key).e = 0 ∧ kind = 3 ∧ (doA l kind key).b = true ∧ key ∈ t.ks ∧ pk (doL l kind key val) = (t.del key).ks) ∨
    ((doA l kind key).e = 0 ∧ kind = 3 ∧ (doA l kind key).b = false ∧ key ∉ t.ks ∧ doL l kind key val = l) ∨
    (kind ≠ 1 ∧ kind ≠ 3 ∧ doL l kind key val = l) := by
  have hc := h.chk
  have hs := ((chk_zero l).1 hc).2
  have hnew := chk_doL hc kind key val
  have hsn := ((chk_zero _).1 hnew).2
  have hh := h.has key
  have hu := h.up
  cases ho : opB kind key with
  | false => exact .inl ⟨by simp [doL, hc, ho], by simp [doA, hc, ho]⟩
  | true =>
    by_cases h1 : kind = 1
    · subst h1
      have eL : doL l 1 key val = putL l key val := by simp [doL, hc, ho]
      have eA : doA l 1 key = putA l key := by simp [doA, hc, ho]
      rw [eA]
      by_cases hk : (getR key l).isSome = true
      · have ea : putA l key = ⟨0, 0, 0, true⟩ := by rw [putA_eq, if_pos hk]
        have el : doL l 1 key val = insR key val l := by rw [eL, putL_eq, if_pos (.inl hk)]
        refine .inr (.inl ⟨by rw [ea], rfl, by rw [ea], hh.1 hk, ?_⟩)
        refine up_ext (srt_up hsn) (srt_up hs) fun y => ?_
        rw [el, mem_insR]
        constructor
        · rintro (e | e)
          · rw [e, ← h.ks]; exact hh.1 hk
          · exact e
        · exact .inr
      · by_cases hl : 200 ≤ l.length
        · have ea : putA l key = ⟨2, 0, 0, false⟩ := by rw [putA_eq, if_neg hk, if_pos hl]
          have el : doL l 1 key val = l := by rw [eL, putL_eq, if_neg (by rintro (e | e); exact hk e; omega)]
          exact .inl ⟨el, by rw [ea]; simp⟩
        · have ea : putA l key = an0 := by rw [putA_eq, if_neg hk, if_neg hl]
          have el : doL l 1 key val = insR key val l := by rw [eL, putL_eq, if_pos (.inr (by omega))]
          refine .inr (.inr (.inl ⟨by rw [ea], rfl, by rw [ea], fun e => hk (hh.2 e), ?_⟩))
          refine up_ext (srt_up hsn) (up_ins hu) fun y => ?_
          rw [el, mem_insR, mem_ins, h.ks]
    · by_cases h3 : kind = 3
      · subst h3
        have eL : doL l 3 key val = cutL l key := by simp [doL, hc, ho]
        have eA : doA l 3 key = getA l key := by simp [doA, hc, ho]
        have el : doL l 3 key val = delR key l := by rw [eL, cutL_eq]
        rw [eA, getA_eq]
        cases hg : getR key l with
        | some v =>
          have hm : key ∈ t.ks := hh.1 (by rw [hg]; rfl)
          refine .inr (.inr (.inr (.inl ⟨rfl, rfl, rfl, hm, ?_⟩)))
          refine up_ext (srt_up hsn) (up_del hu key) fun y => ?_
          rw [el, mem_delR key y hs, mem_del hu, h.ks]
        | none =>
          have hm : key ∉ t.ks := fun e => by have := hh.2 e; rw [hg] at this; cases this
          refine .inr (.inr (.inr (.inr (.inl ⟨rfl, rfl, rfl, hm, ?_⟩))))
          rw [el, del_eq, if_neg]
          rw [has_iff, hg]
          simp
      · exact .inr (.inr (.inr (.inr (.inr ⟨h1, h3, by simp [doL, hc, ho, h1, h3]⟩))))
theorem Same.step {t : Tr} {l : PL} (h : Same t l) (o : OP) : Same (grR t o (doA l o.1 o.2.1)) (doL l o.1 o.2.1 o.2.2) := by
  refine ⟨chk_doL h.chk _ _ _, ?_⟩
  have hu := h.up
  unfold grR
  rcases h.ways o.1 o.2.1 o.2.2 with ⟨e1, e2⟩ | ⟨e1, e2, e3, e4, e5⟩ | ⟨e1, e2, e3, e4, e5⟩ | ⟨e1, e2, e3, e4, e5⟩ | ⟨e1, e2, e3, e4, e5⟩ | ⟨e1, e2, e3⟩
  · rw [if_pos e2, e1]; exact h.ks
  · rw [if_neg (by rw [e1]; simp), if_pos e2, ins_has hu e4, e5]; exact h.ks
  · rw [if_neg (by rw [e1]; simp), if_pos e2, e5]
  · rw [if_neg (by rw [e1]; simp), if_neg (by omega), if_pos e2, e5]
  · rw [if_neg (by rw [e1]; simp), if_neg (by omega), if_pos e2, del_none e4, e5]; exact h.ks
  · rw [if_neg e1, if_neg e2, e3]
    split <;> exact h.ks

def grL (ops : List OP) : Tr × PL := ops.foldl (fun s o => (grR s.1 o (doA s.2 o.1 o.2.1), doL s.2 o.1 o.2.1 o.2.2)) (.nil, [])
abbrev grT (ops : List OP) : Tr := (grL ops).1
theorem grL_run (ops : List OP) : (grL ops).2 = (runR ops).1 := by
  have h : ∀ (ops : List OP) (t : Tr) (l : PL) (z : List An), (ops.foldl (fun s o => (grR s.1 o (doA s.2 o.1 o.2.1), doL s.2 o.1 o.2.1 o.2.2)) (t, l)).2 = (ops.foldl stepR (l, z)).1 := by
    intro ops
    induction ops with
    | nil => intro t l z; rfl
    | cons o ops ih => intro t l z; exact ih _ _ _
  exact h ops _ _ _
theorem grT_succ (ops : List OP) (k : Nat) (h : k < ops.length) : grT (ops.take (k + 1)) = grR (grT (ops.take k)) ops[k] (doA (runR (ops.take k)).1 ops[k].1 ops[k].2.1) := by
  rw [← grL_run]
  unfold grT
  rw [List.take_succ_eq_append_getElem h]
  unfold grL
  rw [List.foldl_append]
  rfl
theorem same_nil : Same .nil [] := ⟨(chk_zero []).2 ⟨by simp, trivial⟩, rfl⟩
theorem grT_same (ops : List OP) : Same (grT ops) (runR ops).1 := by
  rw [← grL_run]
  have h : ∀ (ops : List OP) (t : Tr) (l : PL), Same t l → Same (ops.foldl (fun s o => (grR s.1 o (doA s.2 o.1 o.2.1), doL s.2 o.1 o.2.1 o.2.2)) (t, l)).1 (ops.foldl (fun s o => (grR s.1 o (doA s.2 o.1 o.2.1), doL s.2 o.1 o.2.1 o.2.2)) (t, l)).2 := by
    intro ops
    induction ops with
    | nil => exact fun t l hh => hh
    | cons o ops ih => exact fun t l hh => ih _ _ (hh.step o)
  exact h ops _ _ same_nil
theorem grT_size (ops : List OP) : (grT ops).size ≤ 200 := by
  have h := grT_same ops
  have := ((chk_zero _).1 h.chk).1
  rw [← ks_length, h.ks]
  simpa using this

end Go.Proofs.YtolgncaaffmmnaaDoor
