/-
  Joined texts: YtpnjnedfcdppaaaGreatDoorGPure, YtpnjnedfcdppaaaGreatDoorMaps, YtpnjnedfcdppaaaGreatDoorLives, YtpnjnedfcdppaaaGreatDoorSteps.
-/
import Derived.Test.YtpnjnedfcdppaaaGreatDoorSPureAll
import Derived.Test.YtpnjnedfcdppaaaGreatDoorDOpAll
/-
  TREES AS THEY GROW: put, taken away, told; sorting by the first one: plain mathematics. Nothing of the program.
-/
namespace Go.Proofs.YtpnjnedfcdppaaaGreatDoor

def Tr.ks : Tr → List Int
  | .nil => []
  | .node a k b => a.ks ++ k :: b.ks
theorem sp_ks (t : Tr) (d : Int) : (t.sp d).map Prod.fst = t.ks := by
  induction t generalizing d with
  | nil => rfl
  | node a k b iha ihb => simp [Tr.sp, Tr.ks, iha, ihb]
theorem ks_length (t : Tr) : t.ks.length = t.size := by
  induction t with
  | nil => rfl
  | node a k b iha ihb => simp [Tr.ks, Tr.size, iha, ihb]; omega

abbrev Up (l : List Int) : Prop := l.Pairwise (· < ·)
theorem up_ext : ∀ {l m : List Int}, Up l → Up m → (∀ x, x ∈ l ↔ x ∈ m) → l = m
  | [], [], _, _, _ => rfl
  | [], y :: m, _, _, h => absurd ((h y).2 (by simp)) (by simp)
  | x :: l, [], _, _, h => absurd ((h x).1 (by simp)) (by simp)
  | x :: l, y :: m, hl, hm, h => by
    rw [Up, List.pairwise_cons] at hl hm
    have hxy : x = y := by
      have h1 := (h x).1 (by simp)
      have h2 := (h y).2 (by simp)
      rcases List.mem_cons.1 h1 with e | e
      · exact e
      · rcases List.mem_cons.1 h2 with e' | e'
        · exact e'.symm
        · have := hm.1 x e
          have := hl.1 y e'
          omega
    subst hxy
    have : l = m := up_ext hl.2 hm.2 fun z => by
      have hz := h z
      simp only [List.mem_cons] at hz
      constructor
      · intro h1
        rcases hz.1 (Or.inr h1) with e | e
        · have := hl.1 z h1
          omega
        · exact e
      · intro h1
        rcases hz.2 (Or.inr h1) with e | e
        · have := hm.1 z h1
          omega
        · exact e
    rw [this]
theorem up_node {a b : Tr} {k : Int} : Up (Tr.node a k b).ks ↔ Up a.ks ∧ Up b.ks ∧ (∀ x ∈ a.ks, x < k) ∧ (∀ x ∈ b.ks, k < x) := by
  simp only [Tr.ks, Up, List.pairwise_append, List.pairwise_cons, List.mem_cons]
  constructor
  · rintro ⟨h1, ⟨h2, h3⟩, h4⟩
    exact ⟨h1, h3, fun x hx => h4 x hx k (.inl rfl), h2⟩
  · rintro ⟨h1, h2, h3, h4⟩
    refine ⟨h1, ⟨h4, h2⟩, fun x hx y hy => ?_⟩
    rcases hy with rfl | hy
    · exact h3 x hx
    · have := h3 x hx
      have := h4 y hy
      omega
theorem mem_node {a b : Tr} {k x : Int} : x ∈ (Tr.node a k b).ks ↔ x ∈ a.ks ∨ x = k ∨ x ∈ b.ks := by simp [Tr.ks]

/-- the place of x: what stands there, and what is done there -/
def Tr.sub (x : Int) : Tr → Tr
  | .nil => .nil
  | .node a k b => if x < k then a.sub x else if k < x then b.sub x else .node a k b
def Tr.alter (x : Int) (f : Tr → Tr) : Tr → Tr
  | .nil => f .nil
  | .node a k b => if x < k then .node (a.alter x f) k b else if k < x then .node a k (b.alter x f) else f (.node a k b)
def Tr.leaf (x : Int) : Tr := .node .nil x .nil
def Tr.ins (x : Int) : Tr → Tr
  | .nil => .leaf x
  | .node a k b => if x < k then .node (a.ins x) k b else if k < x then .node a k (b.ins x) else .node a k b
def Tr.isNil : Tr → Bool
  | .nil => true
  | .node _ _ _ => false
def Tr.least : Tr → Int
  | .nil => 0
  | .node a k _ => if a.isNil then k else a.least
def Tr.cutl : Tr → Tr
  | .nil => .nil
  | .node a k b => if a.isNil then b else .node a.cutl k b
def Tr.del : Tr → Int → Tr
  | .nil, _ => .nil
  | .node a k b, x => if x < k then .node (a.del x) k b else if k < x then .node a k (b.del x) else if a.isNil then b else if b.isNil then a else .node a b.least (b.del b.least)
def Tr.cutTop : Tr → Tr
  | .nil => .nil
  | .node a _ b => if a.isNil then b else if b.isNil then a else .node a b.least b.cutl

theorem isNil_ks {t : Tr} : t.isNil = true ↔ t = .nil := by cases t <;> simp [Tr.isNil]
theorem sub_nil {x : Int} {t : Tr} (h : x ∉ t.ks) : t.sub x = .nil := by
  induction t with
  | nil => rfl
  | node a k b iha ihb =>
    simp only [mem_node, not_or] at h
    unfold Tr.sub
    split
    · exact iha h.1
    · split
      · exact ihb h.2.2
      · exact absurd (by omega : x = k) h.2.1
theorem sub_has {x : Int} {t : Tr} (hu : Up t.ks) (h : x ∈ t.ks) : ∃ a b, t.sub x = .node a x b := by
  induction t with
  | nil => simp [Tr.ks] at h
  | node a k b iha ihb =>
    obtain ⟨h1, h2, h3, h4⟩ := up_node.1 hu
    rw [mem_node] at h
    unfold Tr.sub
    split
    · rcases h with h | h | h
      · exact iha h1 h
      · omega
      · have := h4 x h
        omega
    · split
      · rcases h with h | h | h
        · have := h3 x h
          omega
        · omega
        · exact ihb h2 h
      · have : x = k := by omega
        exact ⟨a, b, by rw [this]⟩
theorem alter_ins {x : Int} {t : Tr} (h : x ∉ t.ks) : t.alter x (fun _ => .leaf x) = t.ins x := by
  induction t with
  | nil => rfl
  | node a k b iha ihb =>
    simp only [mem_node, not_or] at h
    unfold Tr.alter Tr.ins
    rw [iha h.1, ihb h.2.2]
    split
    · rfl
    · split
      · rfl
      · exact absurd (by omega : x = k) h.2.1
theorem ins_has {x : Int} {t : Tr} (hu : Up t.ks) (h : x ∈ t.ks) : t.ins x = t := by
  induction t with
  | nil => simp [Tr.ks] at h
  | node a k b iha ihb =>
    obtain ⟨h1, h2, h3, h4⟩ := up_node.1 hu
    rw [mem_node] at h
    unfold Tr.ins
    split
    · rcases h with h | h | h
      · rw [iha h1 h]
      · omega
      · have := h4 x h
        omega
    · split
      · rcases h with h | h | h
        · have := h3 x h
          omega
        · omega
        · rw [ihb h2 h]
      · rfl
theorem del_none {x : Int} {t : Tr} (h : x ∉ t.ks) : t.del x = t := by
  induction t with
  | nil => rfl
  | node a k b iha ihb =>
    simp only [mem_node, not_or] at h
    unfold Tr.del
    rw [iha h.1, ihb h.2.2]
    split
    · rfl
    · split
      · rfl
      · exact absurd (by omega : x = k) h.2.1
theorem least_mem {t : Tr} (h : t ≠ .nil) : t.least ∈ t.ks := by
  induction t with
  | nil => exact absurd rfl h
  | node a k b iha ihb =>
    rw [mem_node]
    unfold Tr.least
    split
    · exact .inr (.inl rfl)
    · rename_i hn
      exact .inl (iha (fun e => hn (by rw [e]; rfl)))
theorem least_le {t : Tr} (hu : Up t.ks) : ∀ x ∈ t.ks, t.least ≤ x := by
  induction t with
  | nil => simp [Tr.ks]
  | node a k b iha ihb =>
    obtain ⟨h1, h2, h3, h4⟩ := up_node.1 hu
    intro x hx
    rw [mem_node] at hx
    unfold Tr.least
    split
    · rename_i hn
      rw [isNil_ks.1 hn] at hx
      rcases hx with h | h | h
      · simp [Tr.ks] at h
      · omega
      · have := h4 x h
        omega
    · rename_i hn
      have hm := h3 _ (least_mem (t := a) (fun e => hn (by rw [e]; rfl)))
      rcases hx with h | h | h
      · exact iha h1 x h
      · omega
      · have := h4 x h
        omega
theorem del_least {t : Tr} (hu : Up t.ks) (h : t ≠ .nil) : t.del t.least = t.cutl := by
  induction t with
  | nil => rfl
  | node a k b iha ihb =>
    obtain ⟨h1, h2, h3, h4⟩ := up_node.1 hu
    by_cases hn : a.isNil = true
    · have e : (Tr.node a k b).least = k := by rw [Tr.least, if_pos hn]
      have e2 : (Tr.node a k b).cutl = b := by rw [Tr.cutl, if_pos hn]
      rw [e, e2, Tr.del, if_neg (Int.lt_irrefl _), if_neg (Int.lt_irrefl _), if_pos hn]
    · have ha : a ≠ .nil := fun e => hn (by rw [e]; rfl)
      have e : (Tr.node a k b).least = a.least := by rw [Tr.least, if_neg hn]
      have e2 : (Tr.node a k b).cutl = .node a.cutl k b := by rw [Tr.cutl, if_neg hn]
      rw [e, e2, Tr.del, if_pos (h3 _ (least_mem ha)), iha h1 ha]
theorem del_alter {x : Int} {t : Tr} (hu : Up t.ks) : t.del x = t.alter x Tr.cutTop := by
  induction t with
  | nil => rfl
  | node a k b iha ihb =>
    obtain ⟨h1, h2, h3, h4⟩ := up_node.1 hu
    unfold Tr.del Tr.alter
    rw [iha h1, ihb h2]
    split
    · rfl
    · split
      · rfl
      · show _ = (if a.isNil = true then b else if b.isNil = true then a else .node a b.least b.cutl)
        split
        · rfl
        · split
          · rfl
          · rename_i hb
            rw [del_least h2 (fun e => hb (by rw [e]; rfl))]
theorem mem_ins {x y : Int} {t : Tr} : y ∈ (t.ins x).ks ↔ y = x ∨ y ∈ t.ks := by
  induction t with
  | nil => simp [Tr.ins, Tr.leaf, Tr.ks]
  | node a k b iha ihb =>
    unfold Tr.ins
    split
    · rw [mem_node, mem_node, iha]
      constructor
      · rintro ((h | h) | h | h)
        · exact .inl h
        · exact .inr (.inl h)
        · exact .inr (.inr (.inl h))
        · exact .inr (.inr (.inr h))
      · rintro (h | h | h | h)
        · exact .inl (.inl h)
        · exact .inl (.inr h)
        · exact .inr (.inl h)
        · exact .inr (.inr h)
    · split
      · rw [mem_node, mem_node, ihb]
        constructor
        · rintro (h | h | h | h)
          · exact .inr (.inl h)
          · exact .inr (.inr (.inl h))
          · exact .inl h
          · exact .inr (.inr (.inr h))
        · rintro (h | h | h | h)
          · exact .inr (.inr (.inl h))
          · exact .inl h
          · exact .inr (.inl h)
          · exact .inr (.inr (.inr h))
      · have e : x = k := by omega
        rw [mem_node]
        constructor
        · exact .inr
        · rintro (h | h)
          · exact .inr (.inl (by omega))
          · exact h
theorem up_ins {x : Int} {t : Tr} (hu : Up t.ks) : Up (t.ins x).ks := by
  induction t with
  | nil => simp [Tr.ins, Tr.leaf, Tr.ks, Up]
  | node a k b iha ihb =>
    obtain ⟨h1, h2, h3, h4⟩ := up_node.1 hu
    unfold Tr.ins
    split
    · refine up_node.2 ⟨iha h1, h2, fun y hy => ?_, h4⟩
      rcases mem_ins.1 hy with e | e
      · omega
      · exact h3 y e
    · split
      · refine up_node.2 ⟨h1, ihb h2, h3, fun y hy => ?_⟩
        rcases mem_ins.1 hy with e | e
        · omega
        · exact h4 y e
      · exact hu
theorem mem_del {t : Tr} (hu : Up t.ks) : ∀ x y : Int, y ∈ (t.del x).ks ↔ y ∈ t.ks ∧ y ≠ x := by
  induction t with
  | nil => intro x y; simp [Tr.del, Tr.ks]
  | node a k b iha ihb =>
    obtain ⟨h1, h2, h3, h4⟩ := up_node.1 hu
    intro x y
    unfold Tr.del
    have ha : ∀ z ∈ a.ks, z < k := h3
    have hb : ∀ z ∈ b.ks, k < z := h4
    split
    · rw [mem_node, mem_node, iha h1]
      constructor
      · rintro (h | h | h)
        · exact ⟨.inl h.1, h.2⟩
        · exact ⟨.inr (.inl h), by omega⟩
        · exact ⟨.inr (.inr h), by have := hb y h; omega⟩
      · rintro ⟨h | h | h, hne⟩
        · exact .inl ⟨h, hne⟩
        · exact .inr (.inl h)
        · exact .inr (.inr h)
    · split
      · rw [mem_node, mem_node, ihb h2]
        constructor
        · rintro (h | h | h)
          · exact ⟨.inl h, by have := ha y h; omega⟩
          · exact ⟨.inr (.inl h), by omega⟩
          · exact ⟨.inr (.inr h.1), h.2⟩
        · rintro ⟨h | h | h, hne⟩
          · exact .inl h
          · exact .inr (.inl h)
          · exact .inr (.inr ⟨h, hne⟩)
      · have e : x = k := by omega
        subst e
        rw [mem_node]
        split
        · rename_i hn
          rw [isNil_ks.1 hn]
          constructor
          · exact fun h => ⟨.inr (.inr h), by have := hb y h; omega⟩
          · rintro ⟨h | h | h, hne⟩
            · simp [Tr.ks] at h
            · exact absurd h hne
            · exact h
        · split
          · rename_i hn
            rw [isNil_ks.1 hn]
            constructor
            · exact fun h => ⟨.inl h, by have := ha y h; omega⟩
            · rintro ⟨h | h | h, hne⟩
              · exact h
              · exact absurd h hne
              · simp [Tr.ks] at h
          · rename_i hn
            have hm := least_mem (t := b) (fun e => hn (by rw [e]; rfl))
            rw [mem_node, ihb h2]
            constructor
            · rintro (h | h | h)
              · exact ⟨.inl h, by have := ha y h; omega⟩
              · exact ⟨.inr (.inr (by rw [h]; exact hm)), by have := hb _ hm; omega⟩
              · exact ⟨.inr (.inr h.1), by have := hb _ h.1; omega⟩
            · rintro ⟨h | h | h, hne⟩
              · exact .inl h
              · exact absurd h hne
              · by_cases e : y = b.least
                · exact .inr (.inl e)
                · exact .inr (.inr ⟨h, e⟩)
theorem up_del {t : Tr} (hu : Up t.ks) : ∀ x : Int, Up (t.del x).ks := by
  induction t with
  | nil => intro x; simp [Tr.del, Tr.ks, Up]
  | node a k b iha ihb =>
    obtain ⟨h1, h2, h3, h4⟩ := up_node.1 hu
    intro x
    unfold Tr.del
    split
    · exact up_node.2 ⟨iha h1 x, h2, fun y hy => h3 y ((mem_del h1 x y).1 hy).1, h4⟩
    · split
      · exact up_node.2 ⟨h1, ihb h2 x, h3, fun y hy => h4 y ((mem_del h2 x y).1 hy).1⟩
      · split
        · exact h2
        · split
          · exact h1
          · rename_i hn
            have hm := least_mem (t := b) (fun e => hn (by rw [e]; rfl))
            refine up_node.2 ⟨h1, ihb h2 _, fun y hy => ?_, fun y hy => ?_⟩
            · have := h3 y hy
              have := h4 _ hm
              omega
            · have hy' := (mem_del h2 _ y).1 hy
              have := least_le h2 y hy'.1
              omega
theorem tdel_ins {x : Int} {t : Tr} (h : x ∉ t.ks) : (t.ins x).del x = t := by
  induction t with
  | nil => simp [Tr.ins, Tr.leaf, Tr.del, Tr.isNil]
  | node a k b iha ihb =>
    simp only [mem_node, not_or] at h
    unfold Tr.ins
    split
    · rename_i hx
      rw [Tr.del, if_pos hx, iha h.1]
    · split
      · rename_i hx hx'
        rw [Tr.del, if_neg hx, if_pos hx', ihb h.2.2]
      · exact absurd (by omega : x = k) h.2.1

/-- keys that came one behind the other -/
def gro (t : Tr) (l : List Int) : Tr := l.foldl (fun t x => t.ins x) t
theorem gro_snoc (t : Tr) (l : List Int) (x : Int) : gro t (l ++ [x]) = (gro t l).ins x := by simp [gro]
theorem gro_take (t : Tr) (l : List Int) (k : Nat) (h : k < l.length) : gro t (l.take (k + 1)) = (gro t (l.take k)).ins l[k] := by
  rw [List.take_succ_eq_append_getElem h, gro_snoc]
theorem up_gro {t : Tr} (hu : Up t.ks) (l : List Int) : Up (gro t l).ks := by
  induction l generalizing t with
  | nil => exact hu
  | cons x l ih => exact ih (up_ins hu)
theorem mem_gro (t : Tr) (l : List Int) (y : Int) : y ∈ (gro t l).ks ↔ y ∈ t.ks ∨ y ∈ l := by
  induction l generalizing t with
  | nil => simp [gro]
  | cons x l ih =>
    have := ih (t.ins x)
    rw [mem_ins] at this
    unfold gro at this ⊢
    rw [List.foldl_cons, this, List.mem_cons]
    constructor
    · rintro ((h | h) | h)
      · exact .inr (.inl h)
      · exact .inl h
      · exact .inr (.inr h)
    · rintro (h | h | h)
      · exact .inl (.inr h)
      · exact .inl (.inl h)
      · exact .inr h
theorem up_nil : Up Tr.nil.ks := by simp [Tr.ks, Up]
theorem size_ins {x : Int} {t : Tr} (h : x ∉ t.ks) : (t.ins x).size = t.size + 1 := by
  induction t with
  | nil => rfl
  | node a k b iha ihb =>
    simp only [mem_node, not_or] at h
    unfold Tr.ins
    split
    · simp only [Tr.size, iha h.1]; omega
    · split
      · simp only [Tr.size, ihb h.2.2]; omega
      · exact absurd (by omega : x = k) h.2.1
theorem size_gro : ∀ (l : List Int) (t : Tr), l.Nodup → (∀ x ∈ l, x ∉ t.ks) → (gro t l).size = t.size + l.length
  | [], t, _, _ => rfl
  | x :: l, t, hn, hx => by
    rw [List.nodup_cons] at hn
    have := size_gro l (t.ins x) hn.2 (fun y hy h => by
      rcases mem_ins.1 h with e | e
      · exact hn.1 (by rw [← e]; exact hy)
      · exact hx y (by simp [hy]) e)
    rw [size_ins (hx x (by simp))] at this
    show (gro (t.ins x) l).size = _
    rw [this, List.length_cons]
    omega

def lo (x : Int) (r : List Int) : List Int := r.filter (fun y => decide (y < x))
def hi (x : Int) (r : List Int) : List Int := r.filter (fun y => !decide (y < x))
theorem gro_node (x : Int) : ∀ (r : List Int) (a b : Tr), x ∉ r → gro (.node a x b) r = .node (gro a (lo x r)) x (gro b (hi x r))
  | [], a, b, _ => rfl
  | y :: r, a, b, h => by
    simp only [List.mem_cons, not_or] at h
    show gro ((Tr.node a x b).ins y) r = _
    unfold Tr.ins
    by_cases h1 : y < x
    · rw [if_pos h1, gro_node x r _ _ h.2]
      simp [lo, hi, h1, gro]
    · rw [if_neg h1, if_pos (by omega), gro_node x r _ _ h.2]
      simp [lo, hi, h1, gro]
theorem gro_cons {x : Int} {r : List Int} (h : x ∉ r) : gro .nil (x :: r) = .node (gro .nil (lo x r)) x (gro .nil (hi x r)) := gro_node x r .nil .nil h
theorem lo_hi (x : Int) (r : List Int) : (lo x r).length + (hi x r).length = r.length := by
  induction r with
  | nil => rfl
  | cons y r ih =>
    by_cases h : y < x
    · simp only [lo, hi, List.filter_cons, h, decide_true, Bool.not_true, Bool.false_eq_true, if_true, if_false, List.length_cons] at ih ⊢
      omega
    · simp only [lo, hi, List.filter_cons, h, decide_false, Bool.not_false, Bool.false_eq_true, if_true, if_false, List.length_cons] at ih ⊢
      omega
theorem nodup_lo {x : Int} {r : List Int} (h : r.Nodup) : (lo x r).Nodup := h.filter _
theorem nodup_hi {x : Int} {r : List Int} (h : r.Nodup) : (hi x r).Nodup := h.filter _
theorem lo_le (x : Int) (r : List Int) : (lo x r).length ≤ r.length := List.length_filter_le _ _
theorem hi_le (x : Int) (r : List Int) : (hi x r).length ≤ r.length := List.length_filter_le _ _

/-- sorted by the first one; how often two are held -/
def qs : List Int → List Int
  | [] => []
  | x :: r => qs (lo x r) ++ x :: qs (hi x r)
termination_by l => l.length
decreasing_by
  · have := lo_le x r; simp only [List.length_cons]; omega
  · have := hi_le x r; simp only [List.length_cons]; omega
def hel : List Int → Int
  | [] => 0
  | x :: r => (r.length : Int) + hel (lo x r) + hel (hi x r)
termination_by l => l.length
decreasing_by
  · have := lo_le x r; simp only [List.length_cons]; omega
  · have := hi_le x r; simp only [List.length_cons]; omega
theorem qs_nil : qs [] = [] := by rw [qs]
theorem qs_cons (x : Int) (r : List Int) : qs (x :: r) = qs (lo x r) ++ x :: qs (hi x r) := by rw [qs]
theorem hel_nil : hel [] = 0 := by rw [hel]
theorem hel_cons (x : Int) (r : List Int) : hel (x :: r) = (r.length : Int) + hel (lo x r) + hel (hi x r) := by rw [hel]
theorem hel_bd : ∀ (n : Nat) (l : List Int), l.length ≤ n → l.length ≤ 200 → 0 ≤ hel l ∧ hel l ≤ 200 * (l.length : Int)
  | _, [], _, _ => by simp [hel_nil]
  | 0, x :: r, h, _ => by simp at h
  | n + 1, x :: r, h, h2 => by
    have e := lo_hi x r
    simp only [List.length_cons] at h h2 ⊢
    have a := hel_bd n (lo x r) (by omega) (by omega)
    have b := hel_bd n (hi x r) (by omega) (by omega)
    rw [hel_cons]
    omega
theorem qs_length : ∀ (n : Nat) (l : List Int), l.length ≤ n → (qs l).length = l.length
  | _, [], _ => by simp [qs_nil]
  | 0, x :: r, h => by simp at h
  | n + 1, x :: r, h => by
    have e := lo_hi x r
    simp only [List.length_cons] at h ⊢
    rw [qs_cons, List.length_append, List.length_cons, qs_length n _ (by omega), qs_length n _ (by omega)]
    omega
theorem qs_gro : ∀ (n : Nat) (l : List Int), l.length ≤ n → l.Nodup → qs l = (gro .nil l).ks
  | _, [], _, _ => by simp [qs_nil, gro, Tr.ks]
  | 0, x :: r, h, _ => by simp at h
  | n + 1, x :: r, h, hn => by
    have e := lo_hi x r
    simp only [List.length_cons] at h
    rw [List.nodup_cons] at hn
    rw [qs_cons, gro_cons hn.1, Tr.ks, qs_gro n _ (by omega) (nodup_lo hn.2), qs_gro n _ (by omega) (nodup_hi hn.2)]

def dsum (l : PL) : Int := (l.map Prod.snd).foldr (· + ·) 0
theorem dsum_app (a b : PL) : dsum (a ++ b) = dsum a + dsum b := by
  unfold dsum
  induction a with
  | nil => simp
  | cons p a ih => simp only [List.cons_append, List.map_cons, List.foldr_cons, ih]; omega
theorem dsum_cons (p : Int × Int) (b : PL) : dsum (p :: b) = p.2 + dsum b := rfl
theorem dsum_sp (t : Tr) (d : Int) : dsum (t.sp (d + 1)) = dsum (t.sp d) + t.size := by
  induction t generalizing d with
  | nil => rfl
  | node a k b iha ihb =>
    simp only [Tr.sp, dsum_app, dsum_cons, iha, ihb, Tr.size]
    omega
theorem hel_dsum : ∀ (n : Nat) (l : List Int), l.length ≤ n → l.Nodup → hel l = dsum ((gro .nil l).sp 0)
  | _, [], _, _ => by simp [hel_nil, gro, Tr.sp, dsum]
  | 0, x :: r, h, _ => by simp at h
  | n + 1, x :: r, h, hn => by
    have e := lo_hi x r
    simp only [List.length_cons] at h
    rw [List.nodup_cons] at hn
    have s1 := size_gro (lo x r) .nil (nodup_lo hn.2) (by simp [Tr.ks])
    have s2 := size_gro (hi x r) .nil (nodup_hi hn.2) (by simp [Tr.ks])
    simp only [Tr.size] at s1 s2
    rw [hel_cons, gro_cons hn.1, Tr.sp, dsum_app, dsum_cons, dsum_sp, dsum_sp, hel_dsum n _ (by omega) (nodup_lo hn.2), hel_dsum n _ (by omega) (nodup_hi hn.2)]
    omega

/-- may these keys come? -/
def unl (l : List Int) : Int := if 200 < l.length then 2 else if ∀ x ∈ l, 0 ≤ x ∧ x ≤ 1000000 then (if l.Nodup then 0 else 5) else 3
theorem unl_zero {l : List Int} : unl l = 0 ↔ l.length ≤ 200 ∧ (∀ x ∈ l, 0 ≤ x ∧ x ≤ 1000000) ∧ l.Nodup := by
  unfold unl
  split
  · constructor
    · intro h; omega
    · intro h; omega
  · split
    · split
      · rename_i h1 h2 h3
        exact ⟨fun _ => ⟨by omega, h2, h3⟩, fun _ => rfl⟩
      · rename_i h1 h2 h3
        exact ⟨fun h => by omega, fun h => absurd h.2.2 h3⟩
    · rename_i h1 h2
      exact ⟨fun h => by omega, fun h => absurd h.2.1 h2⟩

theorem ks_ky (t : Tr) (d : Int) (i : Nat) (h : i < t.size) : ky (t.sp d) i = t.ks[i]'(by rw [ks_length]; exact h) := by
  have hl : i < (t.sp d).length := by rw [sp_length]; exact h
  rw [ky_in hl]
  have e := sp_ks t d
  have : ((t.sp d).map Prod.fst)[i]'(by simpa using hl) = t.ks[i]'(by rw [ks_length]; exact h) := by congr 1
  rw [← this]
  simp
theorem istree_of {t : Tr} (hu : Up t.ks) (hs : t.size ≤ 200) : IsTree (t.sp 0) := by
  refine ⟨by rw [sp_length]; exact hs, fun i hi => ?_, t, rfl⟩
  rw [sp_length] at hi
  rw [ks_ky t 0 i (by omega), ks_ky t 0 (i + 1) hi]
  exact List.pairwise_iff_getElem.1 hu i (i + 1) _ _ (by omega)

theorem dsum_take (l : PL) (k : Nat) (h : k < l.length) : dsum (l.take (k + 1)) = dsum (l.take k) + dp l k := by
  rw [List.take_succ_eq_append_getElem h, dsum_app, dsum_cons, dp_in h]
  simp [dsum]
theorem dsum_bd {l : PL} (h : ∀ i, 0 ≤ dp l i ∧ dp l i ≤ 200) : ∀ k, k ≤ l.length → 0 ≤ dsum (l.take k) ∧ dsum (l.take k) ≤ 200 * (k : Int)
  | 0, _ => by simp [dsum]
  | k + 1, hk => by
    have ih := dsum_bd h k (by omega)
    have := h k
    rw [dsum_take l k (by omega)]
    omega

end Go.Proofs.YtpnjnedfcdppaaaGreatDoor

/-
  MAPS, PLAINLY: what put, cut, get and look come to, by recursion on the list; what holds of them. Lists alone.
-/
namespace Go.Proofs.YtpnjnedfcdppaaaGreatDoor

/-- rising keys from lo on -/
def Srt : Int → PL → Prop
  | _, [] => True
  | lo, p :: t => lo ≤ p.1 ∧ p.1 ≤ 1000000 ∧ Srt (p.1 + 1) t
theorem Srt.mono {l : PL} {a b : Int} (h : Srt b l) (hab : a ≤ b) : Srt a l := by
  cases l with
  | nil => trivial
  | cons p t => exact ⟨by have := h.1; omega, h.2⟩
theorem okTo_cons {p : Int × Int} {t : PL} {k : Nat} : okTo (p :: t) (k + 1) ↔ keyB p.1 = true ∧ (∀ i, i < k → keyB (t[i]?.getD (0, 0)).1 = true ∧ (if i = 0 then p.1 else (t[i - 1]?.getD (0, 0)).1) < (t[i]?.getD (0, 0)).1) := by
  constructor
  · intro h
    refine ⟨(h 0 (by omega)).1, fun i hi => ?_⟩
    have := h (i + 1) (by omega)
    refine ⟨by simpa [okAt] using this.1, ?_⟩
    have h2 := this.2 (by omega)
    cases i with
    | zero => simpa using h2
    | succ i => simpa using h2
  · rintro ⟨h0, h⟩ i hi
    cases i with
    | zero => exact ⟨by simpa using h0, fun h => absurd h (by omega)⟩
    | succ i =>
      obtain ⟨h1, h2⟩ := h i (by omega)
      refine ⟨by simpa using h1, fun _ => ?_⟩
      cases i with
      | zero => simpa using h2
      | succ i => simpa using h2
theorem srt_iff_aux (l : PL) : ∀ lo : Int, Srt lo l ↔ (∀ i, i < l.length → ((l[i]?.getD (0, 0)).1 ≤ 1000000 ∧ (if i = 0 then lo else (l[i - 1]?.getD (0, 0)).1 + 1) ≤ (l[i]?.getD (0, 0)).1)) := by
  induction l with
  | nil => intro lo; simp [Srt]
  | cons p t ih =>
    intro lo
    rw [Srt, ih]
    constructor
    · rintro ⟨h1, h2, h3⟩ i hi
      cases i with
      | zero => simpa using ⟨h2, h1⟩
      | succ i =>
        have := h3 i (by simpa using hi)
        cases i with
        | zero => simpa using this
        | succ i => simpa using this
    · intro h
      have h0 := h 0 (by simp)
      simp at h0
      refine ⟨h0.2, h0.1, fun i hi => ?_⟩
      have := h (i + 1) (by simpa using hi)
      cases i with
      | zero => simpa using this
      | succ i => simpa using this
theorem srt_iff (l : PL) : okTo l l.length ↔ Srt 0 l := by
  rw [srt_iff_aux]
  constructor
  · intro h
    have hk : ∀ i, i < l.length → 0 ≤ (l[i]?.getD (0, 0)).1 ∧ (l[i]?.getD (0, 0)).1 ≤ 1000000 := fun i hi => by simpa [keyB] using (h i hi).1
    intro i hi
    refine ⟨(hk i hi).2, ?_⟩
    by_cases h0 : i = 0
    · subst h0; simpa using (hk 0 hi).1
    · have := (h i hi).2 (by omega)
      simp [h0]; omega
  · intro h i hi
    have hk : ∀ j, j ≤ i → 0 ≤ (l[j]?.getD (0, 0)).1 := by
      intro j
      induction j with
      | zero => intro _; have := (h 0 (by omega)).2; simpa using this
      | succ j ihj => intro hj; have := (h (j + 1) (by omega)).2; have := ihj (by omega); simp at *; omega
    refine ⟨by simp [keyB]; exact ⟨hk i (Nat.le_refl _), (h i hi).1⟩, fun h0 => ?_⟩
    have := (h i hi).2
    rw [if_neg (by omega)] at this
    omega
theorem chk_zero (l : PL) : chk l = 0 ↔ l.length ≤ 200 ∧ Srt 0 l := by
  unfold chk
  rw [← srt_iff]
  split
  · constructor
    · intro h; omega
    · intro h; omega
  · split
    · rename_i h1 h2; exact ⟨fun _ => ⟨by omega, h2⟩, fun _ => rfl⟩
    · rename_i h1 h2; exact ⟨fun h => by omega, fun h => absurd h.2 h2⟩

def insR (k v : Int) : PL → PL
  | [] => [(k, v)]
  | p :: t => if p.1 < k then p :: insR k v t else if p.1 = k then (k, v) :: t else (k, v) :: p :: t
def delR (k : Int) : PL → PL
  | [] => []
  | p :: t => if p.1 < k then p :: delR k t else if p.1 = k then t else p :: t
def getR (k : Int) : PL → Option Int
  | [] => none
  | p :: t => if p.1 < k then getR k t else if p.1 = k then some p.2 else none

theorem cnt_cons_lt {p : Int × Int} {t : PL} {k : Int} (h : p.1 < k) : cnt (p :: t) k = cnt t k + 1 := by simp [cnt, List.takeWhile_cons, h]
theorem cnt_cons_ge {p : Int × Int} {t : PL} {k : Int} (h : ¬ p.1 < k) : cnt (p :: t) k = 0 := by simp [cnt, List.takeWhile_cons, h]
theorem hasB_succ {p : Int × Int} {t : PL} {n : Nat} {k : Int} : hasB (p :: t) (n + 1) k = hasB t n k := by simp [hasB]
theorem hasB_zero {p : Int × Int} {t : PL} {k : Int} : hasB (p :: t) 0 k = (p.1 == k) := by simp [hasB]

theorem get_eq (l : PL) (k : Int) : getR k l = if hasB l (cnt l k) k then some (l[cnt l k]?.getD (0, 0)).2 else none := by
  induction l with
  | nil => simp [getR, hasB]
  | cons p t ih =>
    rw [getR]
    by_cases h : p.1 < k
    · rw [if_pos h, cnt_cons_lt h, hasB_succ, ih]; simp
    · rw [if_neg h, cnt_cons_ge h, hasB_zero]
      by_cases h2 : p.1 = k <;> simp [h2]
theorem has_iff (l : PL) (k : Int) : hasB l (cnt l k) k = (getR k l).isSome := by
  rw [get_eq]; cases hasB l (cnt l k) k <;> simp
theorem ins_eq (l : PL) (k v : Int) : insR k v l = if hasB l (cnt l k) k then l.set (cnt l k) (k, v) else l.take (cnt l k) ++ (k, v) :: l.drop (cnt l k) := by
  induction l with
  | nil => simp [insR, hasB, cnt]
  | cons p t ih =>
    rw [insR]
    by_cases h : p.1 < k
    · rw [if_pos h, cnt_cons_lt h, hasB_succ, ih]
      split <;> simp
    · rw [if_neg h, cnt_cons_ge h, hasB_zero]
      by_cases h2 : p.1 = k <;> simp [h2]
theorem del_eq (l : PL) (k : Int) : delR k l = if hasB l (cnt l k) k then l.take (cnt l k) ++ l.drop (cnt l k + 1) else l := by
  induction l with
  | nil => simp [delR]
  | cons p t ih =>
    rw [delR]
    by_cases h : p.1 < k
    · rw [if_pos h, cnt_cons_lt h, hasB_succ, ih]
      split <;> simp
    · rw [if_neg h, cnt_cons_ge h, hasB_zero]
      by_cases h2 : p.1 = k <;> simp [h2]

def gA : Option Int → An
  | some v => ⟨0, 0, v, true⟩
  | none => an0
theorem getA_eq (l : PL) (k : Int) : getA l k = gA (getR k l) := by
  unfold getA; rw [get_eq]; split <;> rfl
theorem cutL_eq (l : PL) (k : Int) : cutL l k = delR k l := by rw [del_eq]; rfl
theorem putL_eq (l : PL) (k v : Int) : putL l k v = if (getR k l).isSome ∨ l.length < 200 then insR k v l else l := by
  unfold putL
  rw [ins_eq, ← has_iff]
  cases hasB l (cnt l k) k with
  | true => simp
  | false =>
    by_cases h : 200 ≤ l.length
    · simp [h]; omega
    · simp [h, Nat.lt_of_not_ge h]
theorem putA_eq (l : PL) (k : Int) : putA l k = if (getR k l).isSome then ⟨0, 0, 0, true⟩ else if 200 ≤ l.length then ⟨2, 0, 0, false⟩ else an0 := by
  unfold putA
  rw [← has_iff]

theorem get_ins (l : PL) (k v o : Int) : getR o (insR k v l) = if o = k then some v else getR o l := by
  induction l with
  | nil =>
    simp only [insR, getR]
    by_cases ho : o = k
    · subst ho; simp
    · have hko : ¬ k = o := fun e => ho e.symm
      simp [ho, hko]
  | cons p t ih =>
    rw [insR]
    by_cases h : p.1 < k
    · rw [if_pos h, getR, getR, ih]
      by_cases ho : o = k
      · subst ho; simp [h]
      · simp [ho]
    · rw [if_neg h]
      by_cases h2 : p.1 = k
      · rw [if_pos h2, getR, getR]
        by_cases ho : o = k
        · subst ho; simp
        · simp [ho, h2, Ne.symm ho]
      · rw [if_neg h2, getR]
        by_cases ho : o = k
        · subst ho; simp
        · have hko : ¬ k = o := fun e => ho e.symm
          simp only [ho, hko, if_false]
          by_cases h3 : k < o
          · simp [h3]
          · rw [if_neg h3, getR, if_neg (by omega), if_neg (by omega)]
theorem ins_ins (l : PL) (k v v' : Int) : insR k v' (insR k v l) = insR k v' l := by
  induction l with
  | nil => simp [insR]
  | cons p t ih =>
    rw [insR]
    by_cases h : p.1 < k
    · rw [if_pos h, insR, if_pos h, ih, insR, if_pos h]
    · rw [if_neg h, insR]
      by_cases h2 : p.1 = k
      · simp [h2, insR]
      · simp [h, h2, insR]
theorem srt_ins (l : PL) (k v : Int) : ∀ lo, Srt lo l → lo ≤ k → k ≤ 1000000 → Srt lo (insR k v l) := by
  induction l with
  | nil => intro lo _ h1 h2; exact ⟨h1, h2, trivial⟩
  | cons p t ih =>
    intro lo h h1 h2
    rw [insR]
    split
    · exact ⟨h.1, h.2.1, ih _ h.2.2 (by omega) h2⟩
    · split
      · rename_i h3 h4
        refine ⟨h1, h2, ?_⟩
        have := h.2.2
        rw [h4] at this
        exact this
      · refine ⟨h1, h2, by show k + 1 ≤ p.1; omega, h.2.1, h.2.2⟩
theorem get_low (l : PL) (k : Int) : ∀ lo, Srt lo l → k < lo → getR k l = none := by
  intro lo h hk
  cases l with
  | nil => rfl
  | cons p t => have := h.1; rw [getR, if_neg (by omega), if_neg (by omega)]
theorem get_del (l : PL) (k o : Int) : ∀ lo, Srt lo l → getR o (delR k l) = if o = k then none else getR o l := by
  induction l with
  | nil => intro lo _; simp [delR, getR]
  | cons p t ih =>
    intro lo h
    rw [delR]
    by_cases h1 : p.1 < k
    · rw [if_pos h1, getR, getR, ih _ h.2.2]
      by_cases ho : o = k
      · subst ho; simp [h1]
      · simp [ho]
    · rw [if_neg h1]
      by_cases h2 : p.1 = k
      · rw [if_pos h2]
        by_cases ho : o = k
        · subst ho
          rw [get_low t o _ h.2.2 (by omega)]; simp
        · simp only [ho, if_false, getR]
          by_cases h3 : p.1 < o
          · simp [h3]
          · rw [if_neg h3, if_neg (by omega), get_low t o _ h.2.2 (by omega)]
      · rw [if_neg h2]
        by_cases ho : o = k
        · subst ho; simp [getR, h1, h2]
        · simp [ho]
theorem srt_del (l : PL) (k : Int) : ∀ lo, Srt lo l → Srt lo (delR k l) := by
  induction l with
  | nil => intro lo h; exact h
  | cons p t ih =>
    intro lo h
    rw [delR]
    split
    · exact ⟨h.1, h.2.1, ih _ h.2.2⟩
    · split
      · exact h.2.2.mono (by have := h.1; omega)
      · exact h
theorem del_ins (l : PL) (k v : Int) (h : getR k l = none) : delR k (insR k v l) = l := by
  induction l with
  | nil => simp [insR, delR]
  | cons p t ih =>
    rw [getR] at h
    rw [insR]
    by_cases h1 : p.1 < k
    · rw [if_pos h1] at h ⊢
      rw [delR, if_pos h1, ih h]
    · rw [if_neg h1] at h ⊢
      by_cases h2 : p.1 = k
      · rw [if_pos h2] at h; cases h
      · simp [h2, delR]
theorem ins_low (l : PL) (k v : Int) : ∀ lo, Srt lo l → k < lo → insR k v l = (k, v) :: l := by
  intro lo h hk
  cases l with
  | nil => rfl
  | cons p t => have := h.1; rw [insR, if_neg (by omega), if_neg (by omega)]
theorem ins_del (l : PL) (k v : Int) : ∀ lo, Srt lo l → getR k l = some v → insR k v (delR k l) = l := by
  induction l with
  | nil => intro lo _ h; cases h
  | cons p t ih =>
    intro lo hs h
    rw [getR] at h
    rw [delR]
    by_cases h1 : p.1 < k
    · rw [if_pos h1] at h ⊢
      rw [insR, if_pos h1, ih _ hs.2.2 h]
    · rw [if_neg h1] at h ⊢
      by_cases h2 : p.1 = k
      · rw [if_pos h2] at h ⊢
        rw [ins_low t k v _ hs.2.2 (by omega)]
        cases p
        simp at h h2
        simp [h, h2]
      · rw [if_neg h2] at h; cases h
theorem len_ins (l : PL) (k v : Int) : (insR k v l).length = if (getR k l).isSome then l.length else l.length + 1 := by
  induction l with
  | nil => simp [insR, getR]
  | cons p t ih =>
    rw [insR, getR]
    by_cases h1 : p.1 < k
    · simp only [h1, if_true, List.length_cons, ih]
      split <;> rfl
    · simp only [h1, if_false]
      by_cases h2 : p.1 = k <;> simp [h2]
theorem len_del (l : PL) (k : Int) : (delR k l).length = if (getR k l).isSome then l.length - 1 else l.length := by
  induction l with
  | nil => simp [delR, getR]
  | cons p t ih =>
    rw [delR, getR]
    by_cases h1 : p.1 < k
    · simp only [h1, if_true, List.length_cons, ih]
      split
      · rename_i h
        cases t with
        | nil => simp [getR] at h
        | cons q t => simp
      · rfl
    · simp only [h1, if_false]
      by_cases h2 : p.1 = k <;> simp [h2]

end Go.Proofs.YtpnjnedfcdppaaaGreatDoor

/-
  plainLives.
-/
namespace Go.Proofs.YtpnjnedfcdppaaaGreatDoor
open Go.RowKit

abbrev livesOps : List OP := [(1, 7, 1), (1, 3, 2), (4, 3, 0), (3, 7, 0)]
theorem lives_run : runR livesOps = ([(3, 2)], [an0, an0, ⟨0, 7, 1, true⟩, ⟨0, 0, 1, true⟩]) := by decide +kernel
abbrev livesO : Obj := .cells #[I 1, I 7, I 1, I 1, I 3, I 2, I 4, I 3, I 0, I 3, I 7, I 0] 69
theorem lives_os (w : World) : OS (w.alloc livesO) (some ⟨w.heap.size, 0, none⟩) 4 4 livesOps := by
  refine ⟨rfl, Nat.le_refl _, fun _ => ⟨w.heap.size, 0, rfl, by simp, fun i hi j hj => ?_⟩⟩
  have hh : (w.alloc livesO).heap[w.heap.size]? = some livesO := heap_alloc_new w _
  have h4 : i = 0 ∨ i = 1 ∨ i = 2 ∨ i = 3 := by omega
  have h3 : j = 0 ∨ j = 1 ∨ j = 2 := by omega
  rcases h4 with rfl | rfl | rfl | rfl <;> rcases h3 with rfl | rfl | rfl <;> (rw [cell_of_row _ _ _ _ _ _ hh]; rfl)

end Go.Proofs.YtpnjnedfcdppaaaGreatDoor

/-
  Small steps for laws that call Do again and again: what is carried from world to world; what Do answers of a right map.
-/
namespace Go.Proofs.YtpnjnedfcdppaaaGreatDoor
open Go.RowKit

abbrev ansOf (a : An) : Obj := .cells #[I a.e, I a.k, I a.v, .bool a.b] 51
/-- block g is the answer a -/
def AA (w : World) (g : Nat) (a : An) : Prop := w.heap[g]? = some (.cells #[I a.e, I a.k, I a.v, .bool a.b] 51 (0, 0))
theorem AA.lt {w : World} {g : Nat} {a : An} (h : AA w g a) : g < w.heap.size := by
  rcases Nat.lt_or_ge g w.heap.size with hlt | hge
  · exact hlt
  · unfold AA at h; rw [Array.getElem?_eq_none hge] at h; cases h
theorem AA.below {w w' : World} {g : Nat} {a : An} (h : AA w g a) (hb : Below w.heap.size w w') : AA w' g a := (hb.block g h.lt).trans h
theorem AA.alloc {w : World} {g : Nat} {a : An} (h : AA w g a) (o : Obj) : AA (w.alloc o) g a := h.below ((Below.refl _ _).alloc (Nat.le_refl _) _)
theorem AA.step {w w' : World} {g : Nat} {a : An} {o : Obj} (h : AA w g a) (hb : Below (w.alloc o).heap.size (w.alloc o) w') : AA w' g a := (h.alloc o).below hb
theorem AA.new (w : World) (a : An) : AA (w.alloc (ansOf a)) w.heap.size a := heap_alloc_new w _
theorem AA.made {w w' : World} {a : An} (hb : Below (w.alloc (ansOf a)).heap.size (w.alloc (ansOf a)) w') : AA w' w.heap.size a := (AA.new w a).below hb
theorem AA.facts {w : World} {g : Nat} {a : An} (h : AA w g a) : w.cell? ⟨g, 0, none⟩ = some (I a.e) ∧ w.cell? ⟨g, 1, none⟩ = some (I a.k) ∧ w.cell? ⟨g, 2, none⟩ = some (I a.v) ∧ w.cell? ⟨g, 3, none⟩ = some (.bool a.b) := by
  unfold AA at h
  refine ⟨?_, ?_, ?_, ?_⟩ <;> simp [World.cell?, h]
theorem AA.free {w : World} {g : Nat} {a : An} (h : AA w g a) : w.frozen? ⟨g, 0, none⟩ = false ∧ w.frozen? ⟨g, 1, none⟩ = false ∧ w.frozen? ⟨g, 2, none⟩ = false ∧ w.frozen? ⟨g, 3, none⟩ = false := by
  unfold AA at h
  refine ⟨?_, ?_, ?_, ?_⟩ <;> simp [World.frozen?, h]
theorem AA.st4 {w : World} {g : Nat} {a : An} (h : AA w g a) (e k v : Int) (b : Bool) : AA (st4 w g e k v b) g ⟨e, k, v, b⟩ := by
  unfold AA at *
  have h' : w.heap[g]? = some (.cells ([I a.e, I a.k, I a.v, .bool a.b] : List Value).toArray 51 (0, 0)) := h
  have := cells_set (cells_set (cells_set (cells_set h' 0 (I e)) 1 (I k)) 2 (I v)) 3 (.bool b)
  simpa using this
theorem AA.drewN {w : World} {g : Nat} {a : An} (h : AA w g a) (n : Nat) : AA (w.drewN n) g a := h
theorem below_step {w w1 w' : World} {o : Obj} (h : Below w.heap.size w w1) (hb : Below (w1.alloc o).heap.size (w1.alloc o) w') : Below w.heap.size w w' :=
  (h.alloc h.size o).trans (hb.mono (by have := h.size; simp; omega))
theorem PS.step {w w' : World} {n c : Nat} {A : Option Addr} {l : PL} {o : Obj} (h : PS w A n c l) (hb : Below (w.alloc o).heap.size (w.alloc o) w') : PS w' A n c l := (h.alloc o).below hb

theorem Do_is (A : Option Addr) (n c : Nat) (l : PL) (kind key val : Int) (w : World) (h : PS w A n c l) (hn : n ≤ 9223372036854775807) (L : PL) (a : An) (hL : doL l kind key val = L) (ha : doA l kind key = a) :
    Calls Tryz.prog 58 #[.slice A n c, .agg #[I kind, I key, I val]] w (RetPA L a w) := by
  subst hL ha
  exact Do_any A n c l kind key val w h hn

theorem doA_bad {l : PL} (h : chk l ≠ 0) (kind key : Int) : doA l kind key = ⟨chk l, 0, 0, false⟩ := by unfold doA; rw [if_pos h]
theorem doL_bad {l : PL} (h : chk l ≠ 0) (kind key val : Int) : doL l kind key val = [] := by unfold doL; rw [if_pos h]
theorem doA_count {l : PL} (h : chk l = 0) (key : Int) : doA l 6 key = ⟨0, 0, cnt l key, true⟩ := by simp [doA, h, opB, lookA]
theorem doA_nth {l : PL} (h : chk l = 0) (key : Int) : doA l 7 key = pairA l key := by simp [doA, h, opB, lookA]
theorem doA_get {l : PL} (h : chk l = 0) (key : Int) : doA l 2 key = if keyB key then getA l key else ⟨1, 0, 0, false⟩ := by
  cases hk : keyB key <;> simp [doA, h, opB, lookA, hk]
theorem doA_next {l : PL} (h : chk l = 0) (key : Int) (hk : keyB key = true) : doA l 4 key = pairA l (cnt l (key + 1)) := by simp [doA, h, opB, lookA, hk]
theorem doA_prev {l : PL} (h : chk l = 0) (key : Int) (hk : keyB key = true) : doA l 5 key = pairA l (cnt l key - 1) := by simp [doA, h, opB, lookA, hk]
theorem doA_put {l : PL} (h : chk l = 0) (key : Int) : doA l 1 key = if keyB key then putA l key else ⟨1, 0, 0, false⟩ := by
  cases hk : keyB key <;> simp [doA, h, opB, hk]
theorem doL_put {l : PL} (h : chk l = 0) (key v : Int) : doL l 1 key v = if keyB key then putL l key v else l := by
  cases hk : keyB key <;> simp [doL, h, opB, hk]
theorem doA_cut {l : PL} (h : chk l = 0) (key : Int) : doA l 3 key = if keyB key then getA l key else ⟨1, 0, 0, false⟩ := by
  cases hk : keyB key <;> simp [doA, h, opB, hk]
theorem doL_cut {l : PL} (h : chk l = 0) (key v : Int) : doL l 3 key v = if keyB key then cutL l key else l := by
  cases hk : keyB key <;> simp [doL, h, opB, hk]

theorem srt_at (l : PL) : ∀ lo, Srt lo l → ∀ i (h : i < l.length), lo ≤ l[i].1 ∧ l[i].1 ≤ 1000000 := by
  induction l with
  | nil => intro lo _ i h; simp at h
  | cons p t ih =>
    intro lo hs i h
    cases i with
    | zero => exact ⟨hs.1, hs.2.1⟩
    | succ i =>
      have := ih _ hs.2.2 i (by simpa using h)
      simp only [List.getElem_cons_succ]
      have := hs.1
      omega
theorem cnt_low (l : PL) (k : Int) : ∀ lo, Srt lo l → k ≤ lo → cnt l k = 0 := by
  intro lo h hk
  cases l with
  | nil => simp [cnt]
  | cons p t => exact cnt_cons_ge (by have := h.1; omega)
theorem cnt_at (l : PL) : ∀ lo, Srt lo l → ∀ i (h : i < l.length), cnt l l[i].1 = i ∧ cnt l (l[i].1 + 1) = i + 1 := by
  induction l with
  | nil => intro lo _ i h; simp at h
  | cons p t ih =>
    intro lo hs i h
    cases i with
    | zero =>
      simp only [List.getElem_cons_zero]
      rw [cnt_cons_ge (by omega), cnt_cons_lt (by omega), cnt_low t _ _ hs.2.2 (by omega)]
      exact ⟨rfl, rfl⟩
    | succ i =>
      have hl : i < t.length := by simpa using h
      have h1 := ih _ hs.2.2 i hl
      have h2 := srt_at t _ hs.2.2 i hl
      simp only [List.getElem_cons_succ]
      rw [cnt_cons_lt (by omega), cnt_cons_lt (by omega), h1.1, h1.2]
      exact ⟨rfl, rfl⟩
theorem cnt_mono (l : PL) (a b : Int) (h : a ≤ b) : cnt l a ≤ cnt l b := by
  induction l with
  | nil => simp [cnt]
  | cons p t ih =>
    by_cases h1 : p.1 < a
    · rw [cnt_cons_lt h1, cnt_cons_lt (by omega)]; omega
    · rw [cnt_cons_ge h1]; omega
theorem key_at {l : PL} (h : chk l = 0) {i : Nat} (hi : i < l.length) : keyB l[i].1 = true := by
  have := srt_at l 0 ((chk_zero l).1 h).2 i hi
  simp [keyB]
  omega

end Go.Proofs.YtpnjnedfcdppaaaGreatDoor
