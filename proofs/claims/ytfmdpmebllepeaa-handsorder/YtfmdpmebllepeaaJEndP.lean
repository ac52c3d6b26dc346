/-
  WHAT IS TOLD IN THE END, of those that lock and those that mark: the order; what was added and cut. Plain mathematics.
-/
import Derived.Test.YtfmdpmebllepeaaJSound
import Derived.Test.YtfmdpmebllepeaaMLivesAll
namespace Go.Proofs.Ytfmdpmebllepeaa

theorem end3 {al : Nat} (hal : al = 1 ∨ al = 2 ∨ al = 3) {nh : Nat} {P : Nat → PL} {l ord : List Int} (hd : DOk nh P l) (ho : ord.length ≤ 500) :
    Cor (Wend al nh P l ord).s ∧ (∀ w j, j < (P w).length → ∃ b e is_, (Wend al nh P l ord).tol w j = some (b, e, is_) ∧ b ≤ e) ∧
      ∀ has left, kset (st0 l).has has → kset (Wend al nh P l ord).s.has left → ordB (dds P) (Tdl (Wend al nh P l ord) nh (fun v => (P v).length)).length has (Tdl (Wend al nh P l ord) nh (fun v => (P v).length)) left = true := by
  have hl5 : (ordN nh ord).length ≤ 500 := Nat.le_trans (ordN_len (nh := nh) (ord := ord)) ho
  rcases hal with rfl | rfl | rfl
  · obtain ⟨c, ch, g, B⟩ := over_begin hd.ris
    obtain ⟨-, -, e3, e4, e5⟩ := hands_end aOver_ok tOver_ok hd.dees hd.nh4 hd.l4 hd.out B hd.ris c ch g (ord := ordN nh ord) ordN_lt hl5 rfl
    exact ⟨e3.1, e4, e5⟩
  · obtain ⟨c, ch, g, B⟩ := lazy_begin hd.ris
    obtain ⟨-, -, e3, e4, e5⟩ := hands_end aLazy_ok tLazy_ok hd.dees hd.nh4 hd.l4 hd.out B hd.ris c ch g (ord := ordN nh ord) ordN_lt hl5 rfl
    exact ⟨e3, e4, e5⟩
  · obtain ⟨c, ch, g, B⟩ := mark_begin hd.ris
    obtain ⟨-, -, e3, e4, e5⟩ := hands_end aMark_ok tMark_ok hd.dees hd.nh4 hd.l4 hd.out B hd.ris c ch g (ord := ordN nh ord) ordN_lt hl5 rfl
    exact ⟨e3, e4, e5⟩
theorem st0_has {l : List Int} {K : Int} (h0 : 0 ≤ K) (h9 : K ≤ 9) : (st0 l).has K ↔ K ∈ l := by
  constructor
  · rintro ⟨i, hi, hk, -⟩
    have hk' : (if i = 0 then -1 else (l[i - 1]?).getD 10) = K := hk
    split at hk'
    · omega
    · rcases Nat.lt_or_ge (i - 1) l.length with h | h
      · rw [List.getElem?_eq_getElem h, Option.getD_some] at hk'
        rw [← hk']
        exact List.getElem_mem h
      · rw [List.getElem?_eq_none h, Option.getD_none] at hk'
        omega
  · intro h
    obtain ⟨i, hi, rfl⟩ := List.getElem_of_mem h
    exact ⟨i + 1, by show i + 1 < l.length + 2; omega, st0_key l i hi, rfl⟩
/-- the ten, as a list -/
def kl (l : List Int) : List Bool := (List.range 10).map fun i : Nat => decide ((i : Int) ∈ l)
theorem kl_kset (l : List Int) {Q : Int → Prop} (h : ∀ x, 0 ≤ x → x ≤ 9 → (Q x ↔ x ∈ l)) : kset Q (kl l) := by
  refine ⟨by simp [kl], fun n hn => ?_⟩
  rw [h n (by omega) (by omega)]
  unfold kl
  rw [List.getElem?_map, List.getElem?_range hn]
  simp
theorem kl_get (l : List Int) {K : Int} (h0 : 0 ≤ K) (h9 : K ≤ 9) : (kl l)[K.toNat]?.getD false = decide (K ∈ l) := by
  unfold kl
  have hn : K.toNat < 10 := by omega
  rw [List.getElem?_map, List.getElem?_range hn]
  simp only [Option.map_some, Option.getD_some, Int.toNat_of_nonneg h0]

/-- of each key, how much is added -/
def adds (es : List (Int × Int)) (i : Nat) : Int := (es.map fun e : Int × Int => if e.1 = (i : Int) then e.2 else 0).sum
theorem adds_append (es es' : List (Int × Int)) (i : Nat) : adds (es ++ es') i = adds es i + adds es' i := by simp [adds]
theorem adds_snoc {es : List (Int × Int)} {x : Nat} {d : Int} : adds (es ++ [((x : Int), d)]) = upd (adds es) x (adds es x + d) := by
  funext i
  rw [adds_append]
  by_cases e : i = x
  · subst e
    rw [upd_same]
    simp [adds]
  · rw [upd_other _ _ e]
    have : ¬ ((x : Int) = (i : Int)) := by omega
    simp [adds, this]
theorem adds_le {es : List (Int × Int)} (h : ∀ e ∈ es, -1 ≤ e.2 ∧ e.2 ≤ 1) (i : Nat) : -(es.length : Int) ≤ adds es i ∧ adds es i ≤ es.length := by
  induction es with
  | nil => simp [adds]
  | cons e t ih =>
    have h1 := ih fun x hx => h x (List.mem_cons_of_mem _ hx)
    have h2 := h e List.mem_cons_self
    have e1 : adds (e :: t) i = (if e.1 = i then e.2 else 0) + adds t i := by simp [adds]
    rw [e1, List.length_cons]
    split <;> omega
theorem adds_one {l : List Int} (h : l.Pairwise (· < ·)) (d : Int) (i : Nat) : adds (l.map fun k => (k, d)) i = if (i : Int) ∈ l then d else 0 := by
  induction l with
  | nil => simp [adds]
  | cons x t ih =>
    rw [List.pairwise_cons] at h
    have h1 := ih h.2
    have e1 : adds ((x :: t).map fun k => (k, d)) i = (if x = i then d else 0) + adds (t.map fun k => (k, d)) i := by simp [adds]
    rw [e1, h1]
    by_cases hx : x = i
    · have : ¬ (i : Int) ∈ t := fun hm => by have := h.1 _ hm; omega
      simp [hx, this]
    · have : ¬ (i : Int) = x := fun e => hx e.symm
      simp [hx, this]
/-- what a deed that is told adds -/
def ded (P : Nat → PL) (x : Dn) : Int × Int := ((dds P x.w x.j).2, if x.is_ = true then (if (dds P x.w x.j).1 = 1 then 1 else if (dds P x.w x.j).1 = 2 then -1 else 0) else 0)
theorem adds_ded (P : Nat → PL) (L : List Dn) (i : Nat) : adds (L.map (ded P)) i = (L.map (dlt (dds P) i)).sum := by
  unfold adds
  rw [List.map_map]
  congr 1
  refine List.map_congr_left fun x _ => ?_
  show (if (dds P x.w x.j).2 = (i : Int) then (if x.is_ = true then (if (dds P x.w x.j).1 = 1 then (1 : Int) else if (dds P x.w x.j).1 = 2 then -1 else 0) else 0) else 0) = (if x.is_ = true ∧ (dds P x.w x.j).2 = (i : Int) then (if (dds P x.w x.j).1 = 1 then 1 else if (dds P x.w x.j).1 = 2 then -1 else 0) else 0)
  by_cases h1 : (dds P x.w x.j).2 = (i : Int)
  · by_cases h2 : x.is_ = true
    · rw [if_pos h1, if_pos h2, if_pos (And.intro h2 h1)]
    · rw [if_pos h1, if_neg h2, if_neg (fun h : x.is_ = true ∧ (dds P x.w x.j).2 = (i : Int) => h2 h.1)]
  · rw [if_neg h1, if_neg (fun h : x.is_ = true ∧ (dds P x.w x.j).2 = (i : Int) => h1 h.2)]
theorem count_zero {al : Nat} (hal : al = 1 ∨ al = 2 ∨ al = 3) {nh : Nat} {P : Nat → PL} {l ord : List Int} (hd : DOk nh P l) (ho : ord.length ≤ 500) {m : Nat} (hm : Pn (Wend al nh P l ord).s.nx (Wend al nh P l ord).s.tl ((Wend al nh P l ord).s.nx 0) m) {i : Nat} (hi : i < 10) :
    adds (l.map (fun k => (k, 1)) ++ (Tdl (Wend al nh P l ord) nh (fun v => (P v).length)).map (ded P) ++ (lft (Wend al nh P l ord).s m ((Wend al nh P l ord).s.nx 0)).map (fun k => (k, -1))) i = 0 := by
  obtain ⟨hc, h2, h3⟩ := end3 hal hd ho
  obtain ⟨hr, hl⟩ := left_is hc hm
  have h4 := h3 (kl l) (kl (lft (Wend al nh P l ord).s m ((Wend al nh P l ord).s.nx 0))) (kl_kset l fun x h0 h9 => st0_has h0 h9) (kl_kset _ fun x h0 h9 => by rw [hl x]; exact ⟨fun h => ⟨h, h0, h9⟩, fun h => h.1⟩)
  have h5 := ord_count (D := dds P) (K := (i : Int)) (by omega) (by omega) _ _ (kl l) rfl (by simp [kl]) (fun x hx => by
    obtain ⟨w, j, _, hj, e⟩ := mem_Tdl.1 hx
    have := tolD_w (Wend al nh P l ord) w j
    rw [e] at this
    obtain ⟨rfl, rfl⟩ := Prod.mk.inj this
    exact hd.dees _ _ hj) h4
  rw [kl_get _ (by omega) (by omega), kl_get _ (by omega) (by omega)] at h5
  rw [adds_append, adds_append, adds_one hd.ris.1, adds_one hr.1, adds_ded]
  unfold b2i at h5
  by_cases a : (i : Int) ∈ l <;> by_cases b : (i : Int) ∈ lft (Wend al nh P l ord).s m ((Wend al nh P l ord).s.nx 0) <;> simp [a, b] at h5 ⊢ <;> omega
theorem tdl_len {W : Wd} {len : Nat → Nat} (h : ∀ v, len v ≤ 4) : ∀ nh, (Tdl W nh len).length ≤ 4 * nh
  | 0 => by simp [Tdl]
  | nh + 1 => by
    have h1 := tdl_len (W := W) h nh
    have h2 := h nh
    unfold Tdl at h1 ⊢
    rw [List.range_succ, List.flatMap_append, List.length_append]
    simp only [List.flatMap_cons, List.flatMap_nil, List.append_nil, List.length_map, List.length_range]
    omega
end Go.Proofs.Ytfmdpmebllepeaa
