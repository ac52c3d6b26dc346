/-
  TREES AS THEY GROW: put, taken away, told; sorting by the first one: plain mathematics. Nothing of the program.
-/
import Derived.Test.YtolfpjleckckiaaSTree
namespace Go.Proofs.Ytolfpjleckckiaa

def Tr.ks : Tr → List Int
  | .nil => []
  | .node a k b => a.ks ++ k :: b.ks
theorem sp_ks (t : Tr) (d : Int) : (t.sp d).map Prod.fst = t.ks := by
  induction t generalizing d with
  | nil => rfl
  | node a k b iha ihb => simp [Tr.sp, Tr.ks, iha, ihb]
theorem ks_length (t : Tr) : t.ks.length = t.size := by
  induction t with
  | nil => rfl
  | node a k b iha ihb => simp [Tr.ks, Tr.size, iha, ihb]; omega

abbrev Up (l : List Int) : Prop := l.Pairwise (· < ·)
theorem up_ext : ∀ {l m : List Int}, Up l → Up m → (∀ x, x ∈ l ↔ x ∈ m) → l = m
  | [], [], _, _, _ => rfl
  | [], y :: m, _, _, h => absurd ((h y).2 (by simp)) (by simp)
  | x :: l, [], _, _, h => absurd ((h x).1 (by simp)) (by simp)
  | x :: l, y :: m, hl, hm, h => by
    rw [Up, List.pairwise_cons] at hl hm
    have hxy : x = y := by
      have h1 := (h x).1 (by simp)
      have h2 := (h y).2 (by simp)
      rcases List.mem_cons.1 h1 with e | e
      · exact e
      · rcases List.mem_cons.1 h2 with e' | e'
        · exact e'.symm
        · have := hm.1 x e
          have := hl.1 y e'
          omega
    subst hxy
    have : l = m := up_ext hl.2 hm.2 fun z => by
      have hz := h z
      simp only [List.mem_cons] at hz
      constructor
      · intro h1
        rcases hz.1 (Or.inr h1) with e | e
        · have := hl.1 z h1
          omega
        · exact e
      · intro h1
        rcases hz.2 (Or.inr h1) with e | e
        · have := hm.1 z h1
          omega
        · exact e
    rw [this]
theorem up_node {a b : Tr} {k : Int} : Up (Tr.node a k b).ks ↔ Up a.ks ∧ Up b.ks ∧ (∀ x ∈ a.ks, x < k) ∧ (∀ x ∈ b.ks, k < x) := by
  simp only [Tr.ks, Up, List.pairwise_append, List.pairwise_cons, List.mem_cons]
  constructor
  · rintro ⟨h1, ⟨h2, h3⟩, h4⟩
    exact ⟨h1, h3, fun x hx => h4 x hx k (.inl rfl), h2⟩
  · rintro ⟨h1, h2, h3, h4⟩
    refine ⟨h1, ⟨h4, h2⟩, fun x hx y hy => ?_⟩
    rcases hy with rfl | hy
    · exact h3 x hx
    · have := h3 x hx
      have := h4 y hy
      omega
theorem mem_node {a b : Tr} {k x : Int} : x ∈ (Tr.node a k b).ks ↔ x ∈ a.ks ∨ x = k ∨ x ∈ b.ks := by simp [Tr.ks]

/-- the place of x: what stands there, and what is done there -/
def Tr.sub (x : Int) : Tr → Tr
  | .nil => .nil
  | .node a k b => if x < k then a.sub x else if k < x then b.sub x else .node a k b
def Tr.alter (x : Int) (f : Tr → Tr) : Tr → Tr
  | .nil => f .nil
  | .node a k b => if x < k then .node (a.alter x f) k b else if k < x then .node a k (b.alter x f) else f (.node a k b)
def Tr.leaf (x : Int) : Tr := .node .nil x .nil
def Tr.ins (x : Int) : Tr → Tr
  | .nil => .leaf x
  | .node a k b => if x < k then .node (a.ins x) k b else if k < x then .node a k (b.ins x) else .node a k b
def Tr.isNil : Tr → Bool
  | .nil => true
  | .node _ _ _ => false
def Tr.least : Tr → Int
  | .nil => 0
  | .node a k _ => if a.isNil then k else a.least
def Tr.cutl : Tr → Tr
  | .nil => .nil
  | .node a k b => if a.isNil then b else .node a.cutl k b
def Tr.del : Tr → Int → Tr
  | .nil, _ => .nil
  | .node a k b, x => if x < k then .node (a.del x) k b else if k < x then .node a k (b.del x) else if a.isNil then b else if b.isNil then a else .node a b.least (b.del b.least)
def Tr.cutTop : Tr → Tr
  | .nil => .nil
  | .node a _ b => if a.isNil then b else if b.isNil then a else .node a b.least b.cutl

theorem isNil_ks {t : Tr} : t.isNil = true ↔ t = .nil := by cases t <;> simp [Tr.isNil]
theorem sub_nil {x : Int} {t : Tr} (h : x ∉ t.ks) : t.sub x = .nil := by
  induction t with
  | nil => rfl
  | node a k b iha ihb =>
    simp only [mem_node, not_or] at h
    unfold Tr.sub
    split
    · exact iha h.1
    · split
      · exact ihb h.2.2
      · exact absurd (by omega : x = k) h.2.1
theorem sub_has {x : Int} {t : Tr} (hu : Up t.ks) (h : x ∈ t.ks) : ∃ a b, t.sub x = .node a x b := by
  induction t with
  | nil => simp [Tr.ks] at h
  | node a k b iha ihb =>
    obtain ⟨h1, h2, h3, h4⟩ := up_node.1 hu
    rw [mem_node] at h
    unfold Tr.sub
    split
    · rcases h with h | h | h
      · exact iha h1 h
      · omega
      · have := h4 x h
        omega
    · split
      · rcases h with h | h | h
        · have := h3 x h
          omega
        · omega
        · exact ihb h2 h
      · have : x = k := by omega
        exact ⟨a, b, by rw [this]⟩
theorem alter_ins {x : Int} {t : Tr} (h : x ∉ t.ks) : t.alter x (fun _ => .leaf x) = t.ins x := by
  induction t with
  | nil => rfl
  | node a k b iha ihb =>
    simp only [mem_node, not_or] at h
    unfold Tr.alter Tr.ins
    rw [iha h.1, ihb h.2.2]
    split
    · rfl
    · split
      · rfl
      · exact absurd (by omega : x = k) h.2.1
theorem ins_has {x : Int} {t : Tr} (hu : Up t.ks) (h : x ∈ t.ks) : t.ins x = t := by
  induction t with
  | nil => simp [Tr.ks] at h
  | node a k b iha ihb =>
    obtain ⟨h1, h2, h3, h4⟩ := up_node.1 hu
    rw [mem_node] at h
    unfold Tr.ins
    split
    · rcases h with h | h | h
      · rw [iha h1 h]
      · omega
      · have := h4 x h
        omega
    · split
      · rcases h with h | h | h
        · have := h3 x h
          omega
        · omega
        · rw [ihb h2 h]
      · rfl
theorem del_none {x : Int} {t : Tr} (h : x ∉ t.ks) : t.del x = t := by
  induction t with
  | nil => rfl
  | node a k b iha ihb =>
    simp only [mem_node, not_or] at h
    unfold Tr.del
    rw [iha h.1, ihb h.2.2]
    split
    · rfl
    · split
      · rfl
      · exact absurd (by omega : x = k) h.2.1
theorem least_mem {t : Tr} (h : t ≠ .nil) : t.least ∈ t.ks := by
  induction t with
  | nil => exact absurd rfl h
  | node a k b iha ihb =>
    rw [mem_node]
    unfold Tr.least
    split
    · exact .inr (.inl rfl)
    · rename_i hn
      exact .inl (iha (fun e => hn (by rw [e]; rfl)))
theorem least_le {t : Tr} (hu : Up t.ks) : ∀ x ∈ t.ks, t.least ≤ x := by
  induction t with
  | nil => simp [Tr.ks]
  | node a k b iha ihb =>
    obtain ⟨h1, h2, h3, h4⟩ := up_node.1 hu
    intro x hx
    rw [mem_node] at hx
    unfold Tr.least
    split
    · rename_i hn
      rw [isNil_ks.1 hn] at hx
      rcases hx with h | h | h
      · simp [Tr.ks] at h
      · omega
      · have := h4 x h
        omega
    · rename_i hn
      have hm := h3 _ (least_mem (t := a) (fun e => hn (by rw [e]; rfl)))
      rcases hx with h | h | h
      · exact iha h1 x h
      · omega
      · have := h4 x h
        omega
theorem del_least {t : Tr} (hu : Up t.ks) (h : t ≠ .nil) : t.del t.least = t.cutl := by
  induction t with
  | nil => rfl
  | node a k b iha ihb =>
    obtain ⟨h1, h2, h3, h4⟩ := up_node.1 hu
    by_cases hn : a.isNil = true
    · have e : (Tr.node a k b).least = k := by rw [Tr.least, if_pos hn]
      have e2 : (Tr.node a k b).cutl = b := by rw [Tr.cutl, if_pos hn]
      rw [e, e2, Tr.del, if_neg (Int.lt_irrefl _), if_neg (Int.lt_irrefl _), if_pos hn]
    · have ha : a ≠ .nil := fun e => hn (by rw [e]; rfl)
      have e : (Tr.node a k b).least = a.least := by rw [Tr.least, if_neg hn]
      have e2 : (Tr.node a k b).cutl = .node a.cutl k b := by rw [Tr.cutl, if_neg hn]
      rw [e, e2, Tr.del, if_pos (h3 _ (least_mem ha)), iha h1 ha]
theorem del_alter {x : Int} {t : Tr} (hu : Up t.ks) : t.del x = t.alter x Tr.cutTop := by
  induction t with
  | nil => rfl
  | node a k b iha ihb =>
    obtain ⟨h1, h2, h3, h4⟩ := up_node.1 hu
    unfold Tr.del Tr.alter
    rw [iha h1, ihb h2]
    split
    · rfl
    · split
      · rfl
      · show _ = (if a.isNil = true then b else if b.isNil = true then a else .node a b.least b.cutl)
        split
        · rfl
        · split
          · rfl
          · rename_i hb
            rw [del_least h2 (fun e => hb (by rw [e]; rfl))]
theorem mem_ins {x y : Int} {t : Tr} : y ∈ (t.ins x).ks ↔ y = x ∨ y ∈ t.ks := by
  induction t with
  | nil => simp [Tr.ins, Tr.leaf, Tr.ks]
  | node a k b iha ihb =>
    unfold Tr.ins
    split
    · rw [mem_node, mem_node, iha]
      constructor
      · rintro ((h | h) | h | h)
        · exact .inl h
        · exact .inr (.inl h)
        · exact .inr (.inr (.inl h))
        · exact .inr (.inr (.inr h))
      · rintro (h | h | h | h)
        · exact .inl (.inl h)
        · exact .inl (.inr h)
        · exact .inr (.inl h)
        · exact .inr (.inr h)
    · split
      · rw [mem_node, mem_node, ihb]
        constructor
        · rintro (h | h | h | h)
          · exact .inr (.inl h)
          · exact .inr (.inr (.inl h))
          · exact .inl h
          · exact .inr (.inr (.inr h))
        · rintro (h | h | h | h)
          · exact .inr (.inr (.inl h))
          · exact .inl h
          · exact .inr (.inl h)
          · exact .inr (.inr (.inr h))
      · have e : x = k := by omega
        rw [mem_node]
        constructor
        · exact .inr
        · rintro (h | h)
          · exact .inr (.inl (by omega))
          · exact h
theorem up_ins {x : Int} {t : Tr} (hu : Up t.ks) : Up (t.ins x).ks := by
  induction t with
  | nil => simp [Tr.ins, Tr.leaf, Tr.ks, Up]
  | node a k b iha ihb =>
    obtain ⟨h1, h2, h3, h4⟩ := up_node.1 hu
    unfold Tr.ins
    split
    · refine up_node.2 ⟨iha h1, h2, fun y hy => ?_, h4⟩
      rcases mem_ins.1 hy with e | e
      · omega
      · exact h3 y e
    · split
      · refine up_node.2 ⟨h1, ihb h2, h3, fun y hy => ?_⟩
        rcases mem_ins.1 hy with e | e
        · omega
        · exact h4 y e
      · exact hu
theorem mem_del {t : Tr} (hu : Up t.ks) : ∀ x y : Int, y ∈ (t.del x).ks ↔ y ∈ t.ks ∧ y ≠ x := by
  induction t with
  | nil => intro x y; simp [Tr.del, Tr.ks]
  | node a k b iha ihb =>
    obtain ⟨h1, h2, h3, h4⟩ := up_node.1 hu
    intro x y
    unfold Tr.del
    have ha : ∀ z ∈ a.ks, z < k := h3
    have hb : ∀ z ∈ b.ks, k < z := h4
    split
    · rw [mem_node, mem_node, iha h1]
      constructor
      · rintro (h | h | h)
        · exact ⟨.inl h.1, h.2⟩
        · exact ⟨.inr (.inl h), by omega⟩
        · exact ⟨.inr (.inr h), by have := hb y h; omega⟩
      · rintro ⟨h | h | h, hne⟩
        · exact .inl ⟨h, hne⟩
        · exact .inr (.inl h)
        · exact .inr (.inr h)
    · split
      · rw [mem_node, mem_node, ihb h2]
        constructor
        · rintro (h | h | h)
          · exact ⟨.inl h, by have := ha y h; omega⟩
          · exact ⟨.inr (.inl h), by omega⟩
          · exact ⟨.inr (.inr h.1), h.2⟩
        · rintro ⟨h | h | h, hne⟩
          · exact .inl h
          · exact .inr (.inl h)
          · exact .inr (.inr ⟨h, hne⟩)
      · have e : x = k := by omega
        subst e
        rw [mem_node]
        split
        · rename_i hn
          rw [isNil_ks.1 hn]
          constructor
          · exact fun h => ⟨.inr (.inr h), by have := hb y h; omega⟩
          · rintro ⟨h | h | h, hne⟩
            · simp [Tr.ks] at h
            · exact absurd h hne
            · exact h
        · split
          · rename_i hn
            rw [isNil_ks.1 hn]
            constructor
            · exact fun h => ⟨.inl h, by have := ha y h; omega⟩
            · rintro ⟨h | h | h, hne⟩
              · exact h
              · exact absurd h hne
              · simp [Tr.ks] at h
          · rename_i hn
            have hm := least_mem (t := b) (fun e => hn (by rw [e]; rfl))
            rw [mem_node, ihb h2]
            constructor
            · rintro (h | h | h)
              · exact ⟨.inl h, by have := ha y h; omega⟩
              · exact ⟨.inr (.inr (by rw [h]; exact hm)), by have := hb _ hm; omega⟩
              · exact ⟨.inr (.inr h.1), by have := hb _ h.1; omega⟩
            · rintro ⟨h | h | h, hne⟩
              · exact .inl h
              · exact absurd h hne
              · by_cases e : y = b.least
                · exact .inr (.inl e)
                · exact .inr (.inr ⟨h, e⟩)
theorem up_del {t : Tr} (hu : Up t.ks) : ∀ x : Int, Up (t.del x).ks := by
  induction t with
  | nil => intro x; simp [Tr.del, Tr.ks, Up]
  | node a k b iha ihb =>
    obtain ⟨h1, h2, h3, h4⟩ := up_node.1 hu
    intro x
    unfold Tr.del
    split
    · exact up_node.2 ⟨iha h1 x, h2, fun y hy => h3 y ((mem_del h1 x y).1 hy).1, h4⟩
    · split
      · exact up_node.2 ⟨h1, ihb h2 x, h3, fun y hy => h4 y ((mem_del h2 x y).1 hy).1⟩
      · split
        · exact h2
        · split
          · exact h1
          · rename_i hn
            have hm := least_mem (t := b) (fun e => hn (by rw [e]; rfl))
            refine up_node.2 ⟨h1, ihb h2 _, fun y hy => ?_, fun y hy => ?_⟩
            · have := h3 y hy
              have := h4 _ hm
              omega
            · have hy' := (mem_del h2 _ y).1 hy
              have := least_le h2 y hy'.1
              omega
theorem tdel_ins {x : Int} {t : Tr} (h : x ∉ t.ks) : (t.ins x).del x = t := by
  induction t with
  | nil => simp [Tr.ins, Tr.leaf, Tr.del, Tr.isNil]
  | node a k b iha ihb =>
    simp only [mem_node, not_or] at h
    unfold Tr.ins
    split
    · rename_i hx
      rw [Tr.del, if_pos hx, iha h.1]
    · split
      · rename_i hx hx'
        rw [Tr.del, if_neg hx, if_pos hx', ihb h.2.2]
      · exact absurd (by omega : x = k) h.2.1

/-- keys that came one behind the other -/
def gro (t : Tr) (l : List Int) : Tr := l.foldl (fun t x => t.ins x) t
theorem gro_snoc (t : Tr) (l : List Int) (x : Int) : gro t (l ++ [x]) = (gro t l).ins x := by simp [gro]
theorem gro_take (t : Tr) (l : List Int) (k : Nat) (h : k < l.length) : gro t (l.take (k + 1)) = (gro t (l.take k)).ins l[k] := by
  rw [List.take_succ_eq_append_getElem h, gro_snoc]
theorem up_gro {t : Tr} (hu : Up t.ks) (l : List Int) : Up (gro t l).ks := by
  induction l generalizing t with
  | nil => exact hu
  | cons x l ih => exact ih (up_ins hu)
theorem mem_gro (t : Tr) (l : List Int) (y : Int) : y ∈ (gro t l).ks ↔ y ∈ t.ks ∨ y ∈ l := by
  induction l generalizing t with
  | nil => simp [gro]
  | cons x l ih =>
    have := ih (t.ins x)
    rw [mem_ins] at this
    unfold gro at this ⊢
    rw [List.foldl_cons, this, List.mem_cons]
    constructor
    · rintro ((h | h) | h)
      · exact .inr (.inl h)
      · exact .inl h
      · exact .inr (.inr h)
    · rintro (h | h | h)
      · exact .inl (.inr h)
      · exact .inl (.inl h)
      · exact .inr h
theorem up_nil : Up Tr.nil.ks := by simp [Tr.ks, Up]
theorem size_ins {x : Int} {t : Tr} (h : x ∉ t.ks) : (t.ins x).size = t.size + 1 := by
  induction t with
  | nil => rfl
  | node a k b iha ihb =>
    simp only [mem_node, not_or] at h
    unfold Tr.ins
    split
    · simp only [Tr.size, iha h.1]; omega
    · split
      · simp only [Tr.size, ihb h.2.2]; omega
      · exact absurd (by omega : x = k) h.2.1
theorem size_gro : ∀ (l : List Int) (t : Tr), l.Nodup → (∀ x ∈ l, x ∉ t.ks) → (gro t l).size = t.size + l.length
  | [], t, _, _ => rfl
  | x :: l, t, hn, hx => by
    rw [List.nodup_cons] at hn
    have := size_gro l (t.ins x) hn.2 (fun y hy h => by
      rcases mem_ins.1 h with e | e
      · exact hn.1 (by rw [← e]; exact hy)
      · exact hx y (by simp [hy]) e)
    rw [size_ins (hx x (by simp))] at this
    show (gro (t.ins x) l).size = _
    rw [this, List.length_cons]
    omega

def lo (x : Int) (r : List Int) : List Int := r.filter (fun y => decide (y < x))
def hi (x : Int) (r : List Int) : List Int := r.filter (fun y => !decide (y < x))
theorem gro_node (x : Int) : ∀ (r : List Int) (a b : Tr), x ∉ r → gro (.node a x b) r = .node (gro a (lo x r)) x (gro b (hi x r))
  | [], a, b, _ => rfl
  | y :: r, a, b, h => by
    simp only [List.mem_cons, not_or] at h
    show gro ((Tr.node a x b).ins y) r = _
    unfold Tr.ins
    by_cases h1 : y < x
    · rw [if_pos h1, gro_node x r _ _ h.2]
      simp [lo, hi, h1, gro]
    · rw [if_neg h1, if_pos (by omega), gro_node x r _ _ h.2]
      simp [lo, hi, h1, gro]
theorem gro_cons {x : Int} {r : List Int} (h : x ∉ r) : gro .nil (x :: r) = .node (gro .nil (lo x r)) x (gro .nil (hi x r)) := gro_node x r .nil .nil h
theorem lo_hi (x : Int) (r : List Int) : (lo x r).length + (hi x r).length = r.length := by
  induction r with
  | nil => rfl
  | cons y r ih =>
    by_cases h : y < x
    · simp only [lo, hi, List.filter_cons, h, decide_true, Bool.not_true, Bool.false_eq_true, if_true, if_false, List.length_cons] at ih ⊢
      omega
    · simp only [lo, hi, List.filter_cons, h, decide_false, Bool.not_false, Bool.false_eq_true, if_true, if_false, List.length_cons] at ih ⊢
      omega
theorem nodup_lo {x : Int} {r : List Int} (h : r.Nodup) : (lo x r).Nodup := h.filter _
theorem nodup_hi {x : Int} {r : List Int} (h : r.Nodup) : (hi x r).Nodup := h.filter _
theorem lo_le (x : Int) (r : List Int) : (lo x r).length ≤ r.length := List.length_filter_le _ _
theorem hi_le (x : Int) (r : List Int) : (hi x r).length ≤ r.length := List.length_filter_le _ _

/-- sorted by the first one; how often two are held -/
def qs : List Int → List Int
  | [] => []
  | x :: r => qs (lo x r) ++ x :: qs (hi x r)
termination_by l => l.length
decreasing_by
  · have := lo_le x r; simp only [List.length_cons]; omega
  · have := hi_le x r; simp only [List.length_cons]; omega
def hel : List Int → Int
  | [] => 0
  | x :: r => (r.length : Int) + hel (lo x r) + hel (hi x r)
termination_by l => l.length
decreasing_by
  · have := lo_le x r; simp only [List.length_cons]; omega
  · have := hi_le x r; simp only [List.length_cons]; omega
theorem qs_nil : qs [] = [] := by rw [qs]
theorem qs_cons (x : Int) (r : List Int) : qs (x :: r) = qs (lo x r) ++ x :: qs (hi x r) := by rw [qs]
theorem hel_nil : hel [] = 0 := by rw [hel]
theorem hel_cons (x : Int) (r : List Int) : hel (x :: r) = (r.length : Int) + hel (lo x r) + hel (hi x r) := by rw [hel]
theorem hel_bd : ∀ (n : Nat) (l : List Int), l.length ≤ n → l.length ≤ 200 → 0 ≤ hel l ∧ hel l ≤ 200 * (l.length : Int)
  | _, [], _, _ => by simp [hel_nil]
  | 0, x :: r, h, _ => by simp at h
  | n + 1, x :: r, h, h2 => by
    have e := lo_hi x r
    simp only [List.length_cons] at h h2 ⊢
    have a := hel_bd n (lo x r) (by omega) (by omega)
    have b := hel_bd n (hi x r) (by omega) (by omega)
    rw [hel_cons]
    omega
theorem qs_length : ∀ (n : Nat) (l : List Int), l.length ≤ n → (qs l).length = l.length
  | _, [], _ => by simp [qs_nil]
  | 0, x :: r, h => by simp at h
  | n + 1, x :: r, h => by
    have e := lo_hi x r
    simp only [List.length_cons] at h ⊢
    rw [qs_cons, List.length_append, List.length_cons, qs_length n _ (by omega), qs_length n _ (by omega)]
    omega
theorem qs_gro : ∀ (n : Nat) (l : List Int), l.length ≤ n → l.Nodup → qs l = (gro .nil l).ks
  | _, [], _, _ => by simp [qs_nil, gro, Tr.ks]
  | 0, x :: r, h, _ => by simp at h
  | n + 1, x :: r, h, hn => by
    have e := lo_hi x r
    simp only [List.length_cons] at h
    rw [List.nodup_cons] at hn
    rw [qs_cons, gro_cons hn.1, Tr.ks, qs_gro n _ (by omega) (nodup_lo hn.2), qs_gro n _ (by omega) (nodup_hi hn.2)]

def dsum (l : PL) : Int := (l.map Prod.snd).foldr (· + ·) 0
theorem dsum_app (a b : PL) : dsum (a ++ b) = dsum a + dsum b := by
  unfold dsum
  induction a with
  | nil => simp
  | cons p a ih => simp only [List.cons_append, List.map_cons, List.foldr_cons, ih]; omega
theorem dsum_cons (p : Int × Int) (b : PL) : dsum (p :: b) = p.2 + dsum b := rfl
theorem dsum_sp (t : Tr) (d : Int) : dsum (t.sp (d + 1)) = dsum (t.sp d) + t.size := by
  induction t generalizing d with
  | nil => rfl
  | node a k b iha ihb =>
    simp only [Tr.sp, dsum_app, dsum_cons, iha, ihb, Tr.size]
    omega
theorem hel_dsum : ∀ (n : Nat) (l : List Int), l.length ≤ n → l.Nodup → hel l = dsum ((gro .nil l).sp 0)
  | _, [], _, _ => by simp [hel_nil, gro, Tr.sp, dsum]
  | 0, x :: r, h, _ => by simp at h
  | n + 1, x :: r, h, hn => by
    have e := lo_hi x r
    simp only [List.length_cons] at h
    rw [List.nodup_cons] at hn
    have s1 := size_gro (lo x r) .nil (nodup_lo hn.2) (by simp [Tr.ks])
    have s2 := size_gro (hi x r) .nil (nodup_hi hn.2) (by simp [Tr.ks])
    simp only [Tr.size] at s1 s2
    rw [hel_cons, gro_cons hn.1, Tr.sp, dsum_app, dsum_cons, dsum_sp, dsum_sp, hel_dsum n _ (by omega) (nodup_lo hn.2), hel_dsum n _ (by omega) (nodup_hi hn.2)]
    omega

/-- may these keys come? -/
def unl (l : List Int) : Int := if 200 < l.length then 2 else if ∀ x ∈ l, 0 ≤ x ∧ x ≤ 1000000 then (if l.Nodup then 0 else 5) else 3
theorem unl_zero {l : List Int} : unl l = 0 ↔ l.length ≤ 200 ∧ (∀ x ∈ l, 0 ≤ x ∧ x ≤ 1000000) ∧ l.Nodup := by
  unfold unl
  split
  · constructor
    · intro h; omega
    · intro h; omega
  · split
    · split
      · rename_i h1 h2 h3
        exact ⟨fun _ => ⟨by omega, h2, h3⟩, fun _ => rfl⟩
      · rename_i h1 h2 h3
        exact ⟨fun h => by omega, fun h => absurd h.2.2 h3⟩
    · rename_i h1 h2
      exact ⟨fun h => by omega, fun h => absurd h.2.1 h2⟩

theorem ks_ky (t : Tr) (d : Int) (i : Nat) (h : i < t.size) : ky (t.sp d) i = t.ks[i]'(by rw [ks_length]; exact h) := by
  have hl : i < (t.sp d).length := by rw [sp_length]; exact h
  rw [ky_in hl]
  have e := sp_ks t d
  have : ((t.sp d).map Prod.fst)[i]'(by simpa using hl) = t.ks[i]'(by rw [ks_length]; exact h) := by congr 1
  rw [← this]
  simp
theorem istree_of {t : Tr} (hu : Up t.ks) (hs : t.size ≤ 200) : IsTree (t.sp 0) := by
  refine ⟨by rw [sp_length]; exact hs, fun i hi => ?_, t, rfl⟩
  rw [sp_length] at hi
  rw [ks_ky t 0 i (by omega), ks_ky t 0 (i + 1) hi]
  exact List.pairwise_iff_getElem.1 hu i (i + 1) _ _ (by omega)

theorem dsum_take (l : PL) (k : Nat) (h : k < l.length) : dsum (l.take (k + 1)) = dsum (l.take k) + dp l k := by
  rw [List.take_succ_eq_append_getElem h, dsum_app, dsum_cons, dp_in h]
  simp [dsum]
theorem dsum_bd {l : PL} (h : ∀ i, 0 ≤ dp l i ∧ dp l i ≤ 200) : ∀ k, k ≤ l.length → 0 ≤ dsum (l.take k) ∧ dsum (l.take k) ≤ 200 * (k : Int)
  | 0, _ => by simp [dsum]
  | k + 1, hk => by
    have ih := dsum_bd h k (by omega)
    have := h k
    rw [dsum_take l k (by omega)]
    omega

end Go.Proofs.Ytolfpjleckckiaa
