/-
  slices.Insert where there is no room; slices.Delete of one.
-/
import Derived.Test.YtolgncaaffmmnaaDoorOIns
namespace Go.Proofs.YtolgncaaffmmnaaDoor
open Go.RowKit

theorem zero_size (n : Nat) : (Builtin.zeroCells (Value.agg #[I 0, I 0]).cells n).size = n * 2 := by simp [Builtin.zeroCells, Value.cells]

set_option maxRecDepth 100000 in
set_option maxHeartbeats 4000000 in
/-- there is no room: a new row -/
theorem oins_grow (base n h g cap p : Nat) (L : PL) (x d : Int) (w : World) (hr : RB w g 65 cap L) (hl : L.length = n) (hn : n ≤ 1000) (hp : p < n) (hroom : cap < n + 1) (hs : SPT w h x d) (hb : base ≤ w.heap.size) :
    Calls Tryd.prog 49 #[.slice (some ⟨g, 0, none⟩) n cap, I p, .slice (some ⟨h, 0, none⟩) 1 1] w (RetIns (insP L p x d) base w) := by
  have hnc : n ≤ cap := by have := hr.le; omega
  have hps := hr.ps
  have hgw := hr.lt
  have hhw := hs.lt
  rw [hl] at hps
  have hd1 : (L.drop p).length = n - p := by simp [hl]
  obtain ⟨i, hi1, hiz, his, hib⟩ := info_parts gspot_info
  -- the append of zeros
  have hold : (Builtin.firstCells i.size p (.slice (some ⟨g, 0, none⟩) p cap)).run Tryd.prog w.drew = .ok (flat (L.take p)).toArray w.drew := by
    rw [his]
    refine run_firstCells_some w.drew 2 p ⟨g, 0, none⟩ p cap (flat (L.take p)) (by rw [flat_length, List.length_take]; congr 1; omega) (fun j v hv => ?_)
    obtain ⟨b', off', e', _, hc⟩ := hps.cells (by omega)
    cases e'
    rw [addn]
    refine hc j v ?_
    rw [← flat_take, List.getElem?_take] at hv
    split at hv
    · exact hv
    · cases hv
  have hik : p + (n + 1 - p) = n + 1 := by omega
  have hkk : (n : Int) + 1 - (p : Int) = ((n + 1 - p : Nat) : Int) := by omega
  obtain ⟨C, hC⟩ : ∃ C, grownCap w (n + 1) cap 65 = C := ⟨_, rfl⟩
  have hCge : n + 1 ≤ C := by rw [← hC]; exact grownCap_ge w _ _ _
  have hCm : C ≤ maxLen := by rw [← hC]; exact grownCap_le_maxLen w _ _ _ (by unfold maxLen; omega)
  obtain ⟨ROW, hROW⟩ : ∃ ROW : Array Value, ROW = (flat (L.take p)).toArray ++ Builtin.zeroCells (Value.agg #[I 0, I 0]).cells (n + 1 - p) ++ Builtin.zeroCells (Value.agg #[I 0, I 0]).cells (C - (n + 1)) := ⟨_, rfl⟩
  have hfl : (flat (L.take p)).length = p * 2 := by rw [flat_length, List.length_take]; congr 1; omega
  have hRz : ROW.size = C * 2 := by
    rw [hROW, Array.size_append, Array.size_append, zero_size, zero_size, List.size_toArray, hfl]
    omega
  have hRt : ROW.toList.take (p * 2) = flat (L.take p) := by
    rw [hROW, Array.toList_append, Array.toList_append, List.append_assoc, List.take_left' hfl]
  obtain ⟨W1, hW1⟩ : ∃ W1, W1 = w.drew.alloc (.cells ROW 65) := ⟨_, rfl⟩
  obtain ⟨G, hG⟩ : ∃ G, G = w.heap.size := ⟨_, rfl⟩
  have hrz : ∀ ty, (Builtin.append_ #[24, 3] ty #[.slice (some ⟨g, 0, none⟩) p cap, .int .i64 ((n : Int) + 1 - (p : Int))]).run Tryd.prog w = .ok (.slice (some ⟨G, 0, none⟩) (n + 1) C) W1 := fun ty => by
    have h1 := Lib.run_append_grow_zeros w 24 3 ty 65 i _ .i64 .i64 Tryd.underlying24 Tryd.underlying3 hi1 hiz (some ⟨g, 0, none⟩) p cap (flat (L.take p)) hold (n + 1 - p) (by omega) (by omega) (by omega) (by omega) (by rw [hib]; omega) (by rw [hib, hik]; exact growslice_fits hroom (by omega))
    rw [hik, hC, ← hROW, ← hW1, ← hG] at h1
    rw [hkk]
    exact h1
  have hg1 : W1.heap[G]? = some (.cells ROW 65 (0, 0)) := by rw [hW1, hG]; exact heap_alloc_new w.drew _
  have hB1 : Below G w W1 := by rw [hW1, hG]; exact (Below.refl _ _).drew.alloc (Nat.le_refl _) _
  have hs1 : SPT W1 h x d := (hB1.block h (by omega)).trans hs
  have hps1 : PS W1 (some ⟨g, 0, none⟩) n cap L := hps.below (by rw [← hG]; exact hB1)
  have hcpA : ∀ ty dc, (Builtin.copy_ #[24, 24] ty #[.slice (some ⟨G, p * 2, none⟩) (n + 1 - p) dc, .slice (some ⟨h, 0, none⟩) 1 1]).run Tryd.prog W1 = .ok (goInt [(x, d)].length) (W1.setRow G (rput ROW p [(x, d)])) := fun ty dc =>
    run_copyR W1 _ ty 65 Tryd.underlying24 ospot_size G p 65 _ dc 1 1 ⟨h, 0, none⟩ _ [(x, d)] hg1 (by simp only [Nat.min_def, List.length_singleton]; split <;> omega) (by simp) hs1.src (by rw [hRz]; simp only [List.length_singleton]; omega)
  have hz2 : (rput ROW p [(x, d)]).size = C * 2 := by rw [rput_size _ _ _ (by rw [hRz]; simp only [List.length_singleton]; omega), hRz]
  obtain ⟨W2, hW2⟩ : ∃ W2, W2 = W1.setRow G (rput ROW p [(x, d)]) := ⟨_, rfl⟩
  have hg2 : W2.heap[G]? = some (.cells (rput ROW p [(x, d)]) 65 (0, 0)) := by rw [hW2]; exact row_lay W1 G _ _ _ hg1
  have hB2 : Below G w W2 := by rw [hW2]; exact below_setRow hB1 (Nat.le_refl _) _
  have hps2 : PS W2 (some ⟨g, 0, none⟩) n cap L := hps.below (by rw [← hG]; exact hB2)
  rw [← hW2] at hcpA
  have hcpB : ∀ ty dc sc, (Builtin.copy_ #[24, 24] ty #[.slice (some ⟨G, (p + 1) * 2, none⟩) (n - p) dc, .slice (some ⟨g, p * 2, none⟩) (n - p) sc]).run Tryd.prog W2.drew = .ok (goInt (L.drop p).length) (W2.drew.setRow G (rput (rput ROW p [(x, d)]) (p + 1) (L.drop p))) := fun ty dc sc =>
    run_copyR W2.drew _ ty 65 Tryd.underlying24 ospot_size G (p + 1) 65 _ dc _ sc ⟨g, p * 2, none⟩ _ (L.drop p) hg2 (by rw [hd1]; simp only [Nat.min_def]; split <;> omega) (by omega) (fun j v hv => by
      obtain ⟨b', off', e', _, hc⟩ := hps2.cells (by omega)
      cases e'
      rw [addn]
      have := hc (p * 2 + j) v (by rw [← flat_drop, List.getElem?_drop] at hv; exact hv)
      rw [Nat.zero_add] at this
      exact this) (by rw [hd1, hz2]; omega)
  have HEND : Hid (RetIns (insP L p x d) base w (.returned (.slice (some ⟨G, 0, none⟩) (n + 1) C)) (W2.drew.setRow G (rput (rput ROW p [(x, d)]) (p + 1) (L.drop p)))) := by
    have hil : (insP L p x d).length = n + 1 := by rw [insP_length L p x d (by omega), hl]
    refine ⟨_, rfl, ?_, ?_⟩
    · have : RB (W2.drew.setRow G (rput (rput ROW p [(x, d)]) (p + 1) (L.drop p))) G 65 C (insP L p x d) := by
        refine ⟨_, row_lay W2.drew G _ _ _ hg2, ?_, by rw [hil]; exact hCge, ?_⟩
        · rw [rput_size _ _ _ (by rw [hd1, hz2]; omega), hz2]
        · rw [hil, ← hl]
          exact put_fresh ROW L p x d (by omega) (by rw [hl, hRz]; omega) hRt
      have := this.own (base := base) (by omega) hCm
      rw [hil] at this
      exact this
    · exact (below_setRow hB2.drew (Nat.le_refl _) _).mono (by omega)
  obtain ⟨W3, hW3⟩ : ∃ W3, W3 = W2.drew.setRow G (rput (rput ROW p [(x, d)]) (p + 1) (L.drop p)) := ⟨_, rfl⟩
  rw [← hW3] at hcpB HEND
  have hw1 : IntKind.i64.wrap ((p : Int) + 1) = (p : Int) + 1 := by rw [IntKind.wrap_i64]; omega
  have hb1 : (0 : Int) ≤ (p : Int) + 1 := by omega
  have hin : p ≤ n := by omega
  have htn : ((p : Int) + 1).toNat = p + 1 := by omega
  have hb2 : ¬ (C = p + 1) := by omega
  have hb3 : ¬ (C = p) := by omega
  have hb4 : ¬ (cap = p) := by omega
  have hz4 : ¬ ((p : Int) = (n : Int)) := by omega
  have hz3 : (cap : Int) < (n : Int) + 1 := by omega
  have hCm' : C ≤ 9223372036854775807 := by unfold maxLen at hCm; omega
  clear hps hps1 hps2 hd1 hold hik hkk hC hROW hfl hRz hRt hW1 hg1 hB1 hs1 hz2 hW2 hg2 hB2 hW3 hG hs hr hl hCm hi1 hiz his hib
  go_enter Tryd.func49, Tryd.ntmps49
  go_wp2_with (first
    | (at_builtin; refine Lib.wpList_append_run _ rfl _ _ _ _ rfl _ _ rfl rfl _ _ (hrz _) ?_)
    | (at_builtin; refine wpList_runC rfl .copy (.tmp 43) (.tmp 44) 24 24 rfl _ _ rfl rfl _ _ rfl (hcpA _ _) ?_))
  go_region_law (refine step_runC rfl (.tmp 50) (.tmp 53) 24 24 rfl _ _ (by simp [Act.eval, Act.put]) (by simp [Act.eval, Act.put]) _ _ (hcpB _ _ _) ?_)
  go_wp2
  go_ret
  exact HEND.out

/-- slices.Insert of one -/
theorem oins_any (base n h : Nat) (A : Option Addr) (c p : Nat) (L : PL) (x d : Int) (w : World) (ho : OwnR w base 65 (.slice A n c) L) (hl : L.length = n) (hn : n ≤ 1000) (hp : p ≤ n) (hs : SPT w h x d) (hne : ∀ ad, A = some ad → h ≠ ad.block) (hb : base ≤ w.heap.size) :
    Calls Tryd.prog 49 #[.slice A n c, I p, .slice (some ⟨h, 0, none⟩) 1 1] w (RetIns (insP L p x d) base w) := by
  by_cases hpn : p = n
  · subst hpn
    rw [← hl, insP_end, hl]
    exact oins_end base p h A c L x d w ho hl hn hs hb
  · rcases OwnR.rb ho with ⟨_, e⟩ | ⟨g, cap, e, hbg, hm, hr⟩
    · subst e
      simp at hl
      omega
    · rw [hl] at e
      cases e
      by_cases hroom : n + 1 ≤ c
      · exact oins_room base n h g c p L x d w hr hm hl hn (by omega) hroom hs (hne _ rfl) hbg
      · exact oins_grow base n h g c p L x d w hr hl hn (by omega) (by omega) hs hb

/-- the one at place p is gone -/
theorem put_del (cur : Array Value) (L : PL) (p : Nat) (hp : p < L.length) (hc : L.length * 2 ≤ cur.size) (ht : cur.toList.take (L.length * 2) = flat L) :
    (rput (rput cur p (L.drop (p + 1))) (L.length - 1) [(0, 0)]).toList.take ((L.length - 1) * 2) = flat (L.take p ++ L.drop (p + 1)) := by
  have hX : (flat (L.take p)).length = p * 2 := by rw [flat_length, List.length_take]; congr 1; omega
  have h1 : cur.toList.take (p * 2) = flat (L.take p) := by
    rw [← flat_take, ← ht, List.take_take]
    congr 1
    omega
  have hlen : (flat (L.take p ++ L.drop (p + 1))).length = (L.length - 1) * 2 := by
    rw [flat_length]
    simp
    omega
  have hq : (rput cur p (L.drop (p + 1))).toList = cur.toList.take (p * 2) ++ flat (L.drop (p + 1)) ++ cur.toList.drop (p * 2 + (flat (L.drop (p + 1))).length) := rfl
  have hq2 : (rput (rput cur p (L.drop (p + 1))) (L.length - 1) [(0, 0)]).toList = (rput cur p (L.drop (p + 1))).toList.take ((L.length - 1) * 2) ++ flat [(0, 0)] ++ (rput cur p (L.drop (p + 1))).toList.drop ((L.length - 1) * 2 + 2) := rfl
  rw [hq2, hq, h1, ← flat_append, List.take_left' hlen, List.append_assoc, List.take_left' hlen]

theorem put_last (cur : Array Value) (L : PL) (k : Nat) (hl : L.length = k + 1) (ht : cur.toList.take (L.length * 2) = flat L) (hc : L.length * 2 ≤ cur.size) : (rput cur k [(0, 0)]).toList.take (k * 2) = flat (L.take k) := by
  have h1 : cur.toList.take (k * 2) = flat (L.take k) := by
    rw [← flat_take, ← ht, List.take_take]
    congr 1
    omega
  have hq : (rput cur k [(0, 0)]).toList = cur.toList.take (k * 2) ++ flat [(0, 0)] ++ cur.toList.drop (k * 2 + 2) := rfl
  rw [hq, h1, List.append_assoc, List.take_left' (by rw [flat_length, List.length_take, hl]; congr 1; omega)]
set_option maxRecDepth 100000 in
set_option maxHeartbeats 4000000 in
/-- the last one of a row that is full -/
theorem odel_tight (base k g : Nat) (L : PL) (w : World) (hr : RB w g 65 (k + 1) L) (hl : L.length = k + 1) (hn : k ≤ 1000) (hb : base ≤ g) :
    Calls Tryd.prog 74 #[.slice (some ⟨g, 0, none⟩) ((k + 1 : Nat)) (k + 1), I k, I ((k : Int) + 1)] w fun e w' => e = .returned (.slice (some ⟨g, 0, none⟩) k (k + 1)) ∧ RB w' g 65 (k + 1) (L.take k ++ L.drop (k + 1)) ∧ Below g w w' := by
  obtain ⟨cur, h1, h2, h3, h4⟩ := hr
  obtain ⟨W2, hW2⟩ : ∃ W2, W2 = w.drew.setRow g (rput cur k [(0, 0)]) := ⟨_, rfl⟩
  have hcl : ∀ ty c', (Builtin.clear_ #[24] ty #[.slice (some ⟨g, k * 2, none⟩) 1 c']).run Tryd.prog w.drew = .ok (.tuple #[]) W2 := fun ty c' => by
    rw [hW2]
    exact run_clearR w.drew 24 ty 65 Tryd.underlying24 gspot_info g k c' 65 _ h1 (by rw [h2]; omega)
  have HEND : Hid (RB W2 g 65 (k + 1) (L.take k ++ L.drop (k + 1)) ∧ Below g w W2) := by
    have hdr : L.take k ++ L.drop (k + 1) = L.take k := by rw [List.drop_eq_nil_of_le (by omega), List.append_nil]
    rw [hdr]
    have hil : (L.take k).length = k := by simp [hl]
    constructor
    · rw [hW2]
      refine ⟨_, row_lay w.drew g _ _ _ h1, ?_, by rw [hil]; omega, ?_⟩
      · rw [rput_size _ _ _ (by rw [h2]; simp), h2]
      · rw [hil]
        exact put_last cur L k hl h4 (by rw [hl, h2]; omega)
    · rw [hW2]
      exact below_setRow (Below.refl _ _).drew (Nat.le_refl _) _
  have hw1 : IntKind.i64.wrap ((k : Int) + 1) = (k : Int) + 1 := by rw [IntKind.wrap_i64]; omega
  have hb1 : (0 : Int) ≤ (k : Int) + 1 := by omega
  have htn : ((k : Int) + 1).toNat = k + 1 := by omega
  have hz4 : ¬ ((k : Int) = (k : Int) + 1) := by omega
  have hz5 : ((k : Int) == (k : Int) + 1) = false := by simpa using hz4
  have hi3 : (k : Int) ≤ (k : Int) + 1 := by omega
  clear h1 h2 h3 h4 hW2 hl
  go_enter Tryd.func74, Tryd.ntmps74
  go_wp2
  go_region
  go_wp2
  go_ret
  exact ⟨rfl, HEND.out.1, HEND.out.2⟩

set_option maxRecDepth 100000 in
set_option maxHeartbeats 4000000 in
theorem odel_any (base k g cap p : Nat) (L : PL) (w : World) (hr : RB w g 65 cap L) (hl : L.length = k + 1) (hm : cap ≤ maxLen) (hn : k ≤ 1000) (hp : p ≤ k) (hb : base ≤ g) :
    Calls Tryd.prog 74 #[.slice (some ⟨g, 0, none⟩) ((k + 1 : Nat)) cap, I p, I ((p : Int) + 1)] w fun e w' => e = .returned (.slice (some ⟨g, 0, none⟩) k cap) ∧ RB w' g 65 cap (L.take p ++ L.drop (p + 1)) ∧ Below g w w' := by
  have hnc : k + 1 ≤ cap := by have := hr.le; omega
  have HRB := Lib.hid hr
  have HL := Lib.hid hl
  have hps := hr.ps
  rw [hl] at hps
  obtain ⟨cur, h1, h2, h3, h4⟩ := hr
  have hd1 : (L.drop (p + 1)).length = k - p := by simp [hl]
  have hsrc : ∀ sp : Option Addr, (cap = p + 1 ∨ sp = some ⟨g, (p + 1) * 2, none⟩) → (0 < k - p → ∃ ad, sp = some ad ∧ ∀ j v, (flat (L.drop (p + 1)))[j]? = some v → w.drew.cell? (ad.add j) = some v) := by
    intro sp hsp h0
    rcases hsp with hsp | rfl
    · omega
    · refine ⟨_, rfl, fun j v hv => ?_⟩
      obtain ⟨b', off', e', _, hc⟩ := hps.cells (by omega)
      cases e'
      rw [addn]
      have := hc ((p + 1) * 2 + j) v (by rw [← flat_drop, List.getElem?_drop] at hv; exact hv)
      rw [Nat.zero_add] at this
      exact this
  obtain ⟨W1, hW1⟩ : ∃ W1, W1 = w.drew.setRow g (rput cur p (L.drop (p + 1))) := ⟨_, rfl⟩
  have hap : ∀ (ty : TypeId) (sp : Option Addr) (c' : Nat), (cap = p + 1 ∨ sp = some ⟨g, (p + 1) * 2, none⟩) → (Builtin.append_ #[24, 24] ty #[.slice (some ⟨g, 0, none⟩) p cap, .slice sp (k - p) c']).run Tryd.prog w.drew = .ok (.slice (some ⟨g, 0, none⟩) k cap) W1 := fun ty sp c' hsp => by
    have := run_appR w.drew 24 ty 65 Tryd.underlying24 ospot_size g p cap (k - p) c' sp cur (L.drop (p + 1)) h1 hd1 (hsrc sp hsp) (by omega) (by rw [h2]; omega)
    rw [show p + (k - p) = k by omega, ← hW1] at this
    exact this
  have hg1 : W1.heap[g]? = some (.cells (rput cur p (L.drop (p + 1))) 65 (0, 0)) := by rw [hW1]; exact row_lay w.drew g _ _ _ h1
  have hB1 : Below g w W1 := by rw [hW1]; exact below_setRow (Below.refl _ _).drew (Nat.le_refl _) _
  have hz1 : (rput cur p (L.drop (p + 1))).size = cap * 2 := by rw [rput_size _ _ _ (by rw [hd1, h2]; omega), h2]
  obtain ⟨W2, hW2⟩ : ∃ W2, W2 = W1.setRow g (rput (rput cur p (L.drop (p + 1))) k [(0, 0)]) := ⟨_, rfl⟩
  have hcl : ∀ ty c', (Builtin.clear_ #[24] ty #[.slice (some ⟨g, k * 2, none⟩) 1 c']).run Tryd.prog W1 = .ok (.tuple #[]) W2 := fun ty c' => by
    rw [hW2]
    exact run_clearR W1 24 ty 65 Tryd.underlying24 gspot_info g k c' 65 _ hg1 (by rw [hz1]; omega)
  have HEND : Hid (RB W2 g 65 cap (L.take p ++ L.drop (p + 1)) ∧ Below g w W2) := by
    have hil : (L.take p ++ L.drop (p + 1)).length = k := by simp [hl]; omega
    constructor
    · rw [hW2]
      refine ⟨_, row_lay W1 g _ _ _ hg1, ?_, by rw [hil]; omega, ?_⟩
      · rw [rput_size _ _ _ (by rw [hz1]; simp only [List.length_singleton]; omega), hz1]
      · have := put_del cur L p (by omega) (by rw [hl, h2]; omega) h4
        rw [hl, Nat.add_sub_cancel] at this
        rw [hil]
        exact this
    · rw [hW2]
      exact below_setRow hB1 (Nat.le_refl _) _
  have hcm : cap ≤ 9223372036854775807 := by unfold maxLen at hm; omega
  have hw1 : IntKind.i64.wrap ((p : Int) + 1) = (p : Int) + 1 := by rw [IntKind.wrap_i64]; omega
  have hb1 : (0 : Int) ≤ (p : Int) + 1 := by omega
  have htn : ((p : Int) + 1).toNat = p + 1 := by omega
  have hb4 : ¬ (cap = k) := by omega
  have hz4 : ¬ ((p : Int) = (p : Int) + 1) := by omega
  have hz5 : ((p : Int) == (p : Int) + 1) = false := by simpa using hz4
  have hpk : p ≤ k + 1 := by omega
  have hkc : k ≤ cap := by omega
  have hi1 : (p : Int) ≤ (k : Int) + 1 := by omega
  have hi2 : (p : Int) + 1 ≤ (k : Int) + 1 := by omega
  have hpc : p ≤ cap := by omega
  have hi3 : (p : Int) ≤ (p : Int) + 1 := by omega
  clear hps h1 h2 h3 h4 hd1 hsrc hW1 hg1 hB1 hz1 hW2 hl hm
  by_cases hcp : cap = p + 1
  · obtain rfl : k = p := by omega
    subst hcp
    exact odel_tight base k g L w HRB.out HL.out hn hb
  · have HAP : ∀ (ty : TypeId), (Builtin.append_ #[24, 24] ty #[.slice (some ⟨g, 0, none⟩) p cap, .slice (some ⟨g, (p + 1) * 2, none⟩) (k - p) (cap - (p + 1))]).run Tryd.prog w.drew = .ok (.slice (some ⟨g, 0, none⟩) k cap) W1 := fun ty => hap ty _ _ (.inr rfl)
    clear hap
    go_enter Tryd.func74, Tryd.ntmps74
    go_wp2
    go_region_law (refine step_runA rfl (.tmp 22) (.tmp 25) 24 24 rfl (.slice (some ⟨g, 0, none⟩) p cap) (.slice (some ⟨g, (p + 1) * 2, none⟩) (k - p) (cap - (p + 1))) (by simp [Act.eval, Act.put]) (by simp [Act.eval, Act.put]) (.slice (some ⟨g, 0, none⟩) k cap) W1 (HAP _) ?_)
    go_wp2
    go_ret
    exact ⟨rfl, HEND.out.1, HEND.out.2⟩

end Go.Proofs.YtolgncaaffmmnaaDoor
