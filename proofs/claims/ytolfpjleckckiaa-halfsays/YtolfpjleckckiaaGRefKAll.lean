/-
  Joined texts: YtolfpjleckckiaaSLeaf, YtolfpjleckckiaaGRefK.
-/
import Derived.Test.YtolfpjleckckiaaChecked
import Derived.Test.YtolfpjleckckiaaCopy
import Derived.Test.YtolfpjleckckiaaSPure
import Derived.BigQuiet
import Derived.Deep.QuietTactic
import Derived.Test.YtolfpjleckckiaaGSortAll
import Derived.Test.YtolfpjleckckiaaLeaf
/-
  topOf, stands, Check.
-/
namespace Go.Proofs.Ytolfpjleckckiaa
open Go.RowKit

/-- the cells of place i -/
theorem PS.dat {w : World} {n c : Nat} {A : Option Addr} {l : PL} (h : PS w A n c l) (hn : 0 < n) :
    ∃ b off, A = some ⟨b, off, none⟩ ∧ b < w.heap.size ∧ ∀ i, i < n → w.cell? ⟨b, off + i * 2, none⟩ = some (I (ky l i)) ∧ w.cell? ⟨b, off + i * 2 + 1, none⟩ = some (I (dp l i)) := by
  obtain ⟨b, off, e, hb, hc⟩ := h.at_ hn
  refine ⟨b, off, e, hb, fun i hi => ?_⟩
  have hl : i < l.length := by rw [h.len]; exact hi
  rw [ky_in hl, dp_in hl]
  exact hc i hi
theorem PS.take {w : World} {n c : Nat} {A : Option Addr} {l : PL} (h : PS w A n c l) (k : Nat) (hk : k ≤ n) : PS w A k c (l.take k) := by
  refine ⟨by simp [h.len]; omega, by have := h.rd.1; omega, fun h0 => ?_⟩
  obtain ⟨b, off, e, hb, hc⟩ := h.rd.2 (by omega)
  refine ⟨b, off, e, hb, fun i hi j hj => ?_⟩
  rw [hc i (by omega) j hj]
  simp [pf, List.getElem?_take, hi]
theorem PS.drop {w : World} {n c c' : Nat} {A : Option Addr} {l : PL} (h : PS w A n c l) (k : Nat) (hk : k ≤ n) (sp : Option Addr) (hs : k < n → ∀ b off, A = some ⟨b, off, none⟩ → sp = some ⟨b, off + k * 2, none⟩) (hc' : n - k ≤ c') : PS w sp (n - k) c' (l.drop k) := by
  refine ⟨by simp [h.len], hc', fun h0 => ?_⟩
  obtain ⟨b, off, e, hb, hc⟩ := h.rd.2 (by omega)
  refine ⟨b, off + k * 2, hs (by omega) b off e, hb, fun i hi j hj => ?_⟩
  have := hc (k + i) (by omega) j hj
  rw [show off + ((k + i) * 2 + j) = off + k * 2 + (i * 2 + j) by omega] at this
  rw [this]
  simp [pf, List.getElem?_drop]

/-- the top of the first k -/
def TopTo (l : PL) (k j : Nat) : Prop := (∀ i, i < k → dp l j ≤ dp l i) ∧ ∀ i, i < j → dp l j < dp l i
theorem topTo_less {l : PL} {k j : Nat} (h : TopTo l k j) (hd : dp l k < dp l j) : TopTo l (k + 1) k := by
  constructor
  · intro i hi
    rcases Nat.lt_or_ge i k with h1 | h1
    · have := h.1 i h1; omega
    · obtain rfl : i = k := by omega
      exact Int.le_refl _
  · intro i hi
    have := h.1 i hi; omega
theorem topTo_same {l : PL} {k j : Nat} (h : TopTo l k j) (hd : ¬ dp l k < dp l j) : TopTo l (k + 1) j := by
  refine ⟨fun i hi => ?_, h.2⟩
  rcases Nat.lt_or_ge i k with h1 | h1
  · exact h.1 i h1
  · obtain rfl : i = k := by omega
    omega

theorem Below.retB {b b' : Bool} {w : World} {e : Ending} {w' : World} (hb : b = b') (h : e = .returned (.bool b) ∧ Below w.heap.size w w') : e = .returned (.bool b') ∧ Below w.heap.size w w' := by rw [← hb]; exact h

end Go.Proofs.Ytolfpjleckckiaa

/-
  package hedgref on keys: UnlikeKeys, SortedKeys, HeldOften, SameInts, SameSpots.
-/
namespace Go.Proofs.Ytolfpjleckckiaa
open Go.RowKit

set_option maxHeartbeats 1000000 in
theorem sameInts_t (A A' : Option Addr) (n c c' : Nat) (l : List Int) (w : World) (h : IS w A n c l) (h' : IS w A' n c' l) (hn : n ≤ 1000) :
    Calls Try.prog 12 #[.slice A n c, .slice A' n c'] w fun e w' => e = .returned (.bool true) ∧ Below w.heap.size w w' := by
  have H := Lib.hid h
  have H' := Lib.hid h'
  have HL := Lib.hid h.len
  clear h h'
  go_enter Try.func12, Try.ntmps12
  go_wp2
  go_loopg [13] n (fun m i wr => ∃ k : Nat, k ≤ n ∧ n - k ≤ m ∧ i = .int .i64 k ∧ Below w.heap.size w wr)
  case atStart => exact ⟨0, Nat.zero_le _, by omega, rfl, Below.refl _ _⟩
  case round =>
    obtain ⟨k, hk, hkm, rfl, hnx⟩ := hrel
    have HNX := Lib.hid hnx
    clear hnx
    by_cases hlt : k < n
    · obtain ⟨b, off, rfl, hb, hc⟩ := H.out.at_ (by omega)
      obtain ⟨b', off', rfl, hb', hc'⟩ := H'.out.at_ (by omega)
      have hkl : k < l.length := by rw [HL.out]; exact hlt
      have h0 : wr.cell? ⟨b, off + k, none⟩ = some (I l[k]) := (HNX.out.cell (by exact hb)).trans (hc k hlt)
      have h1 : wr.cell? ⟨b', off' + k, none⟩ = some (I l[k]) := (HNX.out.cell (by exact hb')).trans (hc' k hlt)
      clear hc hc'
      generalize l[k] = x at *
      go_wp2
      go_quiet (fail)
      go_wp2
      go_roundg (gk - 1)
      case measure => omega
      case rel => exact ⟨k + 1, by omega, by omega, by go_num, below_drewN HNX.out _⟩
    · go_wp2
      go_ret
      exact ⟨rfl, HNX.out⟩

/-- does one stand twice? -/
def tw (l : List Int) : Bool := !decide l.Nodup
theorem tw_snoc (l : List Int) (x : Int) : tw (l ++ [x]) = (tw l || decide (x ∈ l)) := by
  unfold tw
  by_cases h : l.Nodup
  · by_cases hx : x ∈ l
    · have : ¬ (l ++ [x]).Nodup := fun hn => by rw [List.nodup_append] at hn; exact hn.2.2 x hx x (by simp) rfl
      simp [h, hx, this]
    · simp [h, hx, nodup_snoc h hx]
  · have : ¬ (l ++ [x]).Nodup := fun hn => h (List.nodup_append.1 hn).1
    simp [h, this]
theorem mem_snoc (l : List Int) (x y : Int) : decide (x ∈ l ++ [y]) = (decide (x ∈ l) || (y == x)) := by
  by_cases h : x ∈ l
  · simp [h]
  · by_cases h2 : y = x
    · simp [h2]
    · have : ¬ x = y := fun e => h2 e.symm
      simp [h, h2, this]

/-- the next one of all -/
def nxS (last next k : Int) : Int := if last < k ∧ (next < 0 ∨ k < next) then k else next
def nx (last : Int) (l : List Int) : Int := l.foldl (nxS last) (-1)
theorem nx_snoc (last : Int) (l : List Int) (x : Int) : nx last (l ++ [x]) = nxS last (nx last l) x := by simp [nx]
theorem nx_spec (last : Int) (l : List Int) (hl : ∀ x ∈ l, 0 ≤ x) : ∀ k, k ≤ l.length →
    (nx last (l.take k) = -1 ∧ ∀ x ∈ l.take k, ¬ last < x) ∨ (nx last (l.take k) ∈ l.take k ∧ last < nx last (l.take k) ∧ ∀ x ∈ l.take k, last < x → nx last (l.take k) ≤ x)
  | 0, _ => .inl ⟨by simp [nx], by simp⟩
  | k + 1, hk => by
    have hkl : k < l.length := by omega
    have h0 := hl l[k] (List.getElem_mem hkl)
    have hsub : ∀ x ∈ l.take k, 0 ≤ x := fun x hx => hl x (List.mem_of_mem_take hx)
    rw [take_snoc hkl, nx_snoc]
    unfold nxS
    rcases nx_spec last l hl k (by omega) with ⟨e, hno⟩ | ⟨hm, hlt, hle⟩
    · rw [e]
      by_cases hx : last < l[k]
      · rw [if_pos ⟨hx, .inl (by omega)⟩]
        refine .inr ⟨List.mem_append.2 (.inr (List.mem_singleton.2 rfl)), hx, fun y hy hly => ?_⟩
        rcases List.mem_append.1 hy with h | h
        · exact absurd hly (hno y h)
        · simp only [List.mem_singleton] at h
          omega
      · rw [if_neg (fun h => hx h.1)]
        refine .inl ⟨rfl, fun y hy => ?_⟩
        rcases List.mem_append.1 hy with h | h
        · exact hno y h
        · simp only [List.mem_singleton] at h
          rw [h]; exact hx
    · have hpos := hsub _ hm
      by_cases hx : last < l[k] ∧ l[k] < nx last (l.take k)
      · rw [if_pos ⟨hx.1, .inr hx.2⟩]
        refine .inr ⟨List.mem_append.2 (.inr (List.mem_singleton.2 rfl)), hx.1, fun y hy hly => ?_⟩
        rcases List.mem_append.1 hy with h | h
        · have := hle y h hly
          omega
        · simp only [List.mem_singleton] at h
          omega
      · rw [if_neg (fun h => hx ⟨h.1, by rcases h.2 with h2 | h2 <;> omega⟩)]
        refine .inr ⟨List.mem_append.2 (.inl hm), hlt, fun y hy hly => ?_⟩
        rcases List.mem_append.1 hy with h | h
        · exact hle y h hly
        · simp only [List.mem_singleton] at h
          subst h
          rcases Int.lt_or_le l[k] (nx last (l.take k)) with h3 | h3
          · exact absurd ⟨hly, h3⟩ hx
          · exact h3
def prevOf (s : List Int) (j : Nat) : Int := if j = 0 then -1 else s[j - 1]?.getD 0
theorem nx_next {l s : List Int} (hl : ∀ x ∈ l, 0 ≤ x) (hu : Up s) (hm : ∀ x, x ∈ s ↔ x ∈ l) (j : Nat) (hj : j < s.length) : nx (prevOf s j) l = s[j] := by
  have hin : s[j] ∈ l := (hm _).1 (List.getElem_mem hj)
  have hp := List.pairwise_iff_getElem.1 hu
  have hlt : prevOf s j < s[j] := by
    unfold prevOf
    split
    · have := hl _ hin
      omega
    · rw [List.getElem?_eq_getElem (by omega)]
      exact hp (j - 1) j (by omega) hj (by omega)
  have hs := nx_spec (prevOf s j) l hl l.length (Nat.le_refl _)
  rw [List.take_length] at hs
  rcases hs with ⟨_, hno⟩ | ⟨h1, h2, h3⟩
  · exact absurd hlt (hno _ hin)
  · have hle := h3 _ hin hlt
    obtain ⟨i, hi, ei⟩ := List.getElem_of_mem ((hm _).2 h1)
    rw [← ei] at h2 hle ⊢
    rcases Nat.lt_trichotomy i j with h | h | h
    · exfalso
      unfold prevOf at h2
      rw [if_neg (by omega), List.getElem?_eq_getElem (by omega)] at h2
      simp only [Option.getD_some] at h2
      rcases Nat.lt_or_ge i (j - 1) with h4 | h4
      · have := hp i (j - 1) hi (by omega) h4
        omega
      · have : i = j - 1 := by omega
        subst this
        omega
    · subst h
      rfl
    · have := hp j i hj hi h
      omega

end Go.Proofs.Ytolfpjleckckiaa
