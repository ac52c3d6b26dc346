/-
  Has, nth, Without.
-/
import Derived.Test.YtjnkfpagaajfeaaDoorStepsAll
import Derived.Deep.AppendLies
namespace Go.Proofs.YtjnkfpagaajfeaaDoor
open Go.RowKit

def hasV (l : PL) (key : Int) : Int := ((l.find? fun p => p.1 == key).map (·.2)).getD 0
def hasI (l : PL) (key : Int) : Bool := (l.find? fun p => p.1 == key).isSome
def noneTo (l : PL) (key : Int) (k : Nat) : Prop := ∀ i, i < k → ((l[i]?.getD (key + 1, 0)).1 == key) = false
theorem noneTo_find (l : PL) (key : Int) : ∀ k (h : k < l.length), noneTo l key k → (l[k].1 == key) = true → l.find? (fun p => p.1 == key) = some l[k] := by
  induction l with
  | nil => intro k h; simp at h
  | cons p t ih =>
    intro k h hn hk
    cases k with
    | zero => simp only [List.getElem_cons_zero] at hk ⊢; simp [List.find?_cons, hk]
    | succ k =>
      have h0 := hn 0 (by omega)
      simp only [List.getElem?_cons_zero, Option.getD_some] at h0
      simp only [List.find?_cons, h0, List.getElem_cons_succ]
      exact ih k (by simpa using h) (fun i hi => by have := hn (i + 1) (by omega); simpa using this) (by simpa using hk)
theorem noneTo_all (l : PL) (key : Int) (h : noneTo l key l.length) : l.find? (fun p => p.1 == key) = none := by
  rw [List.find?_eq_none]
  intro x hx
  obtain ⟨i, hi, rfl⟩ := List.getElem_of_mem hx
  have := h i hi
  simpa [List.getElem?_eq_getElem hi] using this
theorem noneTo_succ {l : PL} {key : Int} {k : Nat} (hk : k < l.length) (h : noneTo l key k) (h1 : (l[k].1 == key) = false) : noneTo l key (k + 1) := fun i hi => by
  rcases Nat.lt_or_ge i k with h2 | h2
  · exact h i h2
  · obtain rfl : i = k := by omega
    simpa [List.getElem?_eq_getElem hk] using h1

set_option maxHeartbeats 1000000 in
theorem Has_any (A : Option Addr) (n c : Nat) (l : PL) (key : Int) (w : World) (h : PS w A n c l) (hn : n ≤ 1000000) :
    Calls Tryd.prog 52 #[.slice A n c, I key] w fun e w' => e = .returned (.tuple #[I (hasV l key), .bool (hasI l key)]) ∧ Below w.heap.size w w' := by
  have H := Lib.hid h
  have Hlen := Lib.hid h.len
  clear h
  go_enter Tryd.func52, Tryd.ntmps52
  go_wp2
  go_loopw [10] (fun i wr => ∃ k : Nat, k ≤ n ∧ i = .int .i64 k ∧ noneTo l key k ∧ Below w.heap.size w wr) (fun i _ => n - (intOf i).toNat)
  case atStart => exact ⟨0, Nat.zero_le _, rfl, fun i hi => absurd hi (by omega), Below.refl _ _⟩
  case round =>
    obtain ⟨k, hk, rfl, hno, hnx⟩ := hrel
    by_cases hlt : k < n
    · obtain ⟨b, off, rfl, hb, hc⟩ := H.out.at_ (by omega)
      have hkl : k < l.length := by have := Hlen.out; omega
      have hc0 : wr.cell? ⟨b, off + k * 2, none⟩ = some (I l[k].1) := (hnx.cell (by exact hb)).trans (hc k hlt).1
      have hc1 : wr.cell? ⟨b, off + k * 2 + 1, none⟩ = some (I l[k].2) := (hnx.cell (by exact hb)).trans (hc k hlt).2
      have hsz := hnx.size
      clear hc
      cases hkey : (l[k].1 == key) with
      | true =>
        have hf := noneTo_find l key k hkl hno hkey
        have HF : Hid (hasV l key = l[k].2 ∧ hasI l key = true) := by show _ ∧ _; simp [hasV, hasI, hf]
        clear hno hf
        go_wp2
        go_ret2
        refine ⟨?_, hnx.alloc hsz _⟩
        rw [HF.out.1, HF.out.2]
        rfl
      | false =>
        have HO := Lib.hid (noneTo_succ hkl hno hkey)
        clear hno
        go_wp2
        go_roundw
        case rel => exact ⟨k + 1, by omega, by go_num, HO.out, hnx.alloc hsz _⟩
        case measure => simp [intOf]; omega
    · have hf := noneTo_all l key (by rw [Hlen.out, show n = k by omega]; exact hno)
      have HF : Hid (hasV l key = 0 ∧ hasI l key = false) := by show _ ∧ _; simp [hasV, hasI, hf]
      clear hno hf
      go_wp2
      go_ret2
      refine ⟨?_, hnx⟩
      rw [HF.out.1, HF.out.2]
      rfl

def notAt (p : Int) (k : Nat) : Prop := ∀ i : Nat, i < k → (i : Int) ≠ p

set_option maxRecDepth 100000 in
set_option maxHeartbeats 1000000 in
theorem nth_any (A : Option Addr) (n c : Nat) (l : PL) (p : Int) (w : World) (h : PS w A n c l) (hn : n ≤ 1000000) :
    Calls Tryd.prog 55 #[.slice A n c, I p] w fun e w' => e = .returned (anV (pairA l p)) ∧ Below w.heap.size w w' := by
  have H := Lib.hid h
  have Hlen := Lib.hid h.len
  clear h
  have hb0 : Below w.heap.size w (w.alloc ansO) := (Below.refl _ _).alloc (Nat.le_refl _) _
  have HAB0 := Lib.hid (AB.new w)
  have HB0 := Lib.hid hb0
  clear hb0
  go_enter Tryd.func55, Tryd.ntmps55
  go_wp2
  go_loopw [9] (fun i wr => ∃ k : Nat, k ≤ n ∧ i = .int .i64 k ∧ notAt p k ∧ AB wr w.heap.size ∧ Below w.heap.size w wr) (fun i _ => n - (intOf i).toNat)
  case atStart => exact ⟨0, Nat.zero_le _, rfl, fun i hi => absurd hi (by omega), HAB0.out, HB0.out⟩
  case round =>
    obtain ⟨k, hk, rfl, hno, hab, hnx⟩ := hrel
    have hz : w.heap.size < wr.heap.size := by
      rcases Nat.lt_or_ge w.heap.size wr.heap.size with h1 | h1
      · exact h1
      · unfold AB at hab; rw [Array.getElem?_eq_none h1] at hab; cases hab
    have hab2 : ∀ o : Obj, AB (wr.alloc o) w.heap.size := fun o => hab.below (B := wr.heap.size) ((Below.refl _ _).alloc (Nat.le_refl _) _) hz
    by_cases hlt : k < n
    · obtain ⟨b, off, rfl, hb, hc⟩ := H.out.at_ (by omega)
      have hkl : k < l.length := by have := Hlen.out; omega
      have hc0 : wr.cell? ⟨b, off + k * 2, none⟩ = some (I l[k].1) := (hnx.cell (by exact hb)).trans (hc k hlt).1
      have hc1 : wr.cell? ⟨b, off + k * 2 + 1, none⟩ = some (I l[k].2) := (hnx.cell (by exact hb)).trans (hc k hlt).2
      have hsz := hnx.size
      clear hc
      by_cases hkp : (k : Int) = p
      · have HF : Hid (pairA l p = ⟨0, l[k].1, l[k].2, true⟩) := by rw [← hkp]; exact pairA_in l k hkl
        have hkp' : ((k : Int) == p) = true := by simpa using hkp
        obtain ⟨⟨a0, a1, a2, a3⟩, f0, f1, f2, f3⟩ := hab.facts
        have hR := ((AA.st4 (a := an0) hab 0 l[k].1 l[k].2 true).alloc (.cells #[I l[k].1, I l[k].2] 46)).facts
        have HR := Lib.hid hR
        have HNX := Lib.hid hnx
        clear hno hkp hab hab2 hnx hR
        go_wp2
        obtain ⟨r0, r1, r2, r3⟩ := HR.out
        refine bodyPost_ret (v := anV ⟨0, l[k].1, l[k].2, true⟩) (by simp [results, Tryd.results55, go_sem, r0, r1, r2, r3]) rfl ⟨by rw [HF.out], ?_⟩
        exact (below_st4 HNX.out (Nat.le_refl _) _ _ _ _).alloc (by simpa [World.setCell] using hsz) _
      · have HO : Hid (notAt p (k + 1)) := fun i hi => by
          rcases Nat.lt_or_ge i k with h2 | h2
          · exact hno i h2
          · obtain rfl : i = k := by omega
            exact hkp
        have hkp' : ((k : Int) == p) = false := by simpa using hkp
        have HAB := Lib.hid hab2
        clear hno hkp hab hab2
        go_wp2
        go_roundw
        case rel => exact ⟨k + 1, by omega, by go_num, HO.out, HAB.out _, hnx.alloc hsz _⟩
        case measure => simp [intOf]; omega
    · have HF : Hid (pairA l p = an0) := by
        show pairA l p = an0
        unfold pairA
        rw [if_neg]
        rintro ⟨h1, h2⟩
        refine hno p.toNat (by have := Hlen.out; omega) (by omega)
      obtain ⟨⟨a0, a1, a2, a3⟩, f0, f1, f2, f3⟩ := hab.facts
      have HNX := Lib.hid hnx
      clear hno hab hab2 hnx
      go_wp2
      exact bodyPost_ret (v := anV an0) (by simp [results, Tryd.results55, go_sem, a0, a1, a2, a3]) rfl ⟨by rw [HF.out], below_st4 HNX.out (Nat.le_refl _) _ _ _ _⟩

end Go.Proofs.YtjnkfpagaajfeaaDoor
