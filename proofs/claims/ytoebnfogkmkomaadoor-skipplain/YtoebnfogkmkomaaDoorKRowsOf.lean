/-
  (*tower).high, slices.Clone of rows.
-/
import Derived.Test.YtoebnfogkmkomaaDoorKTowerOf
import Derived.Test.YtoebnfogkmkomaaDoorCopy
namespace Go.Proofs.YtoebnfogkmkomaaDoor
open Go.RowKit

abbrev T3 := Option Addr × Nat × Nat
def tAt (ts : List T3) (i : Nat) : T3 := ts[i]?.getD (none, 0, 0)
/-- the block g has twelve slices that read as L -/
structure Tv (w : World) (g : Nat) (ts : List T3) (L : Nat → List Int) : Prop where
  len : ts.length = 12
  lt : g < w.heap.size
  cell : ∀ i, i < 12 → w.cell? ⟨g, i, none⟩ = some (slV (tAt ts i))
  is_ : ∀ i, i < 12 → IS w (tAt ts i).1 (tAt ts i).2.1 (tAt ts i).2.2 (L i)
theorem Tv.below {w w' : World} {g : Nat} {ts : List T3} {L : Nat → List Int} (h : Tv w g ts L) (hb : Below w.heap.size w w') : Tv w' g ts L :=
  ⟨h.len, Nat.lt_of_lt_of_le h.lt hb.size, fun i hi => (hb.cell (by exact h.lt)).trans (h.cell i hi), fun i hi => (h.is_ i hi).below hb⟩
/-- a slice of slices that reads as rows -/
structure RI (w : World) (A : Option Addr) (m c : Nat) (L : List (List Int)) : Prop where
  len : L.length = m
  cap : m ≤ c
  at_ : 0 < m → ∃ b off, A = some ⟨b, off, none⟩ ∧ b < w.heap.size ∧ ∀ i, i < m → ∃ A' n' c', w.cell? ⟨b, off + i, none⟩ = some (.slice A' n' c') ∧ IS w A' n' c' (L[i]?.getD [])
theorem RI.below {w w' : World} {A : Option Addr} {m c : Nat} {L : List (List Int)} (h : RI w A m c L) (hb : Below w.heap.size w w') : RI w' A m c L := by
  refine ⟨h.len, h.cap, fun h0 => ?_⟩
  obtain ⟨b, off, e, hlt, hc⟩ := h.at_ h0
  refine ⟨b, off, e, Nat.lt_of_lt_of_le hlt hb.size, fun i hi => ?_⟩
  obtain ⟨A', n', c', h1, h2⟩ := hc i hi
  exact ⟨A', n', c', (hb.cell (by exact hlt)).trans h1, h2.below hb⟩
theorem RI.none_ {w : World} : RI w none 0 0 [] := ⟨rfl, Nat.le_refl _, fun h => absurd h (by omega)⟩
/-- rows in new memory -/
def RetRows (L : List (List Int)) (w : World) (e : Ending) (w' : World) : Prop := ∃ A m c, e = .returned (.slice A m c) ∧ RI w' A m c L ∧ Below w.heap.size w w'

theorem hiR_is {l : List Int} {k : Nat} (hk : k ≤ 12) (h1 : ∀ i, i < k → rowL l i ≠ []) (h2 : k = 12 ∨ rowL l k = []) : hiR l = k := by
  rcases Nat.lt_trichotomy (hiR l) k with h | h | h
  · exact absurd (hiR_none l _ (Nat.le_refl _)) (h1 _ h)
  · exact h
  · have := hiR_le l
    rcases h2 with h2 | h2
    · omega
    · exact absurd h2 (hiR_some l k h)

set_option maxRecDepth 100000 in
set_option maxHeartbeats 1000000 in
theorem high_any (g : Nat) (ts : List T3) (l : List Int) (w : World) (h : Tv w g ts (rowL l)) (hl : l.length ≤ 1000) :
    Calls Tryd.prog 45 #[.pointer (some ⟨g, 0, none⟩)] w fun e w' => e = .returned (I (hiR l)) ∧ Below w.heap.size w w' := by
  have H := Lib.hid h
  clear h
  go_enter Tryd.func45, Tryd.ntmps45
  go_wp2
  go_loopw [3] (fun i wr => ∃ k : Nat, k ≤ 12 ∧ i = .int .i64 k ∧ (∀ i, i < k → rowL l i ≠ []) ∧ Below w.heap.size w wr) (fun i _ => 12 - (intOf i).toNat)
  case atStart => exact ⟨0, by omega, rfl, fun i hi => absurd hi (by omega), Below.refl _ _⟩
  case round =>
    obtain ⟨k, hk, rfl, hall, hnx⟩ := hrel
    by_cases hlt : k < 12
    · have hcell : wr.cell? ⟨g, k, none⟩ = some (slV (tAt ts k)) := (hnx.cell (by exact H.out.lt)).trans (H.out.cell k hlt)
      have hlen := (H.out.is_ k hlt).len
      obtain ⟨x, hx⟩ : ∃ x, tAt ts k = x := ⟨_, rfl⟩
      obtain ⟨A', m, c'⟩ := x
      rw [hx] at hcell hlen
      have hm : m ≤ 1000 := by have := rowL_len l k; simp only at hlen; omega
      by_cases h0 : 0 < m
      · have HA : Hid (∀ i, i < k + 1 → rowL l i ≠ []) := fun i hi => by
          rcases Nat.lt_or_ge i k with h1 | h1
          · exact hall i h1
          · obtain rfl : i = k := by omega
            intro e
            rw [e] at hlen
            simp at hlen
            omega
        clear hall hlen hx
        have hd : decide (0 < m) = true := by simpa using h0
        go_wp2
        go_roundw
        case rel => exact ⟨k + 1, by omega, by go_num, HA.out, by first | exact hnx | exact below_drewN hnx _⟩
        case measure => simp [intOf]; omega
      · have HF : Hid ((k : Int) = (hiR l : Int)) := by
          show (k : Int) = _
          rw [hiR_is hk hall (.inr (List.eq_nil_of_length_eq_zero (by simp only at hlen; omega)))]
        clear hall hlen hx
        obtain rfl : m = 0 := by omega
        go_wp2
        go_ret
        exact ⟨ret_int HF.out, by first | exact hnx | exact below_drewN hnx _⟩
    · have HF : Hid ((k : Int) = (hiR l : Int)) := by
        show (k : Int) = _
        rw [hiR_is hk hall (.inl (by omega))]
      clear hall
      go_wp2
      go_ret
      exact ⟨ret_int HF.out, by first | exact hnx | exact below_drewN hnx _⟩

theorem row_info : (Tryd.prog.info? 22).map (fun i => (i.zero, i.size, i.bytes)) = some (some (.slice none 0 0), 1, 24) := by kernel_rfl
theorem one_slV (ts : List T3) : ∀ u ∈ ts.map slV, u.oneCell' = true := by
  intro u hu
  obtain ⟨t, _, rfl⟩ := List.mem_map.1 hu
  rfl
set_option maxRecDepth 100000 in
set_option maxHeartbeats 1000000 in
theorem cloneR_any (g h : Nat) (ts : List T3) (L : Nat → List Int) (w : World) (hv : Tv w g ts L) (hh : h ≤ 12) :
    Calls Tryd.prog 44 #[.slice (some ⟨g, 0, none⟩) h 12] w fun e w' => ∃ v, e = .returned v ∧ w'.ownsRow w.heap.size 22 1 v h ((ts.take h).map slV) ∧ Below w.heap.size w w' := by
  have H := Lib.hid hv
  have hln : ((ts.take h).map slV).length = h * 1 := by simp [hv.len]; omega
  have HC : Hid (∀ j u, ((ts.take h).map slV)[j]? = some u → w.cell? ⟨g, j, none⟩ = some u) := fun j u hu => by
    rw [List.getElem?_map, List.getElem?_take] at hu
    by_cases hj : j < h
    · rw [if_pos hj] at hu
      rw [hv.cell j (by omega)]
      unfold tAt
      rw [List.getElem?_eq_getElem (by have := hv.len; omega)] at hu ⊢
      simpa using hu
    · rw [if_neg hj] at hu; cases hu
  have HLN := Lib.hid hln
  clear hv hln
  obtain ⟨i0, hi, hz0, hz1, hz2⟩ := info_parts row_info
  have HI := Lib.hid hi
  have HZ0 := Lib.hid hz0
  have HZ1 := Lib.hid hz1
  have HZ2 := Lib.hid hz2
  have hgl := H.out.lt
  clear hi hz0 hz1 hz2
  have heq := fun w => Lib.run_eql_slice_nil (P := Tryd.prog) w 23 22 (some ⟨g, 0, none⟩) h 12 0 0 Tryd.underlying23
  go_enter Tryd.func44, Tryd.ntmps44
  go_wp2_with (first
    | (at_builtin
       refine wpList_append_own_at _ rfl (.tmp 5) (.tmp 6) 23 rfl w.heap.size 22 i0 _ 1 24 Tryd.underlying23 HI.out HZ0.out HZ1.out HZ2.out rfl (by omega) (.slice (some ⟨w.heap.size, 0, none⟩) 0 0) 0 [] rfl (World.ownsRow_made w _ 0 (Nat.le_refl _) (by unfold maxLen; omega) (by simp)) ⟨g, 0, none⟩ h 12 ((ts.take h).map slV) rfl HLN.out (fun j u hu => ?_) (one_slV _) (by unfold maxLen; omega) (by omega) (by simp) ?_
       · rw [addn, Nat.zero_add]; exact (Below.cell ((Below.refl _ _).alloc (Nat.le_refl _) _) (by exact hgl)).trans (HC.out j u hu)
       intro v2 w2 hown2 hgrow2 _ hat2)
    | fail)
  go_ret
  exact ⟨v2, rfl, by simpa using hown2, Below.grown ((Below.refl _ _).alloc (Nat.le_refl _) _) hgrow2 (by simp) (by simp [Value.ownBlock])⟩
end Go.Proofs.YtoebnfogkmkomaaDoor
