/-
  hedgref.SameTold: of two that tell the same.
-/
import Derived.Test.YtfmdpmebllepeaaURow2All
import Derived.BigQuiet
import Derived.Deep.LoopGhost
namespace Go.Proofs.Ytfmdpmebllepeaa
open Go.RowKit Go.Maps

set_option maxRecDepth 100000 in
set_option maxHeartbeats 4000000 in
theorem eqDone_t (A A' : Option Addr) (n c c' : Nat) (L : List Dn) (w : World) (h : DR w A n L) (h' : DR w A' n L) (hn : n ≤ 1000000) :
    Calls Try.prog 16 #[.slice A n c, .slice A' n c'] w fun e w' => e = .returned (.bool true) ∧ Below w.heap.size w w' := by
  have H := Lib.hid h
  have H' := Lib.hid h'
  have HL := Lib.hid h.len
  clear h h'
  have hne : ((n : Int) != (n : Int)) = false := by simp
  go_enter Try.func16, Try.ntmps16
  go_wp2
  go_loopw [13] (fun i wr => ∃ k : Nat, k ≤ n ∧ i = .int .i64 k ∧ Below w.heap.size w wr) (fun i _ => n - (intOf i).toNat)
  case atStart => exact ⟨0, Nat.zero_le _, rfl, Below.refl _ _⟩
  case round =>
    obtain ⟨k, hk, rfl, hbl⟩ := hrel
    have HBL := Lib.hid hbl
    clear hbl
    by_cases hlt : k < n
    · obtain ⟨g, rfl, hg, hc⟩ := H.out.at_ (by omega)
      obtain ⟨g', rfl, hg', hc'⟩ := H'.out.at_ (by omega)
      have hkl : k < L.length := by rw [HL.out]; exact hlt
      have hDk := hc k hkl
      have hEk := hc' k hkl
      obtain ⟨⟨dw, dj, db, de, di⟩, hd⟩ : ∃ d, L[k] = d := ⟨_, rfl⟩
      rw [hd] at hDk hEk
      have D0 : wr.cell? ⟨g, k * 5, none⟩ = some (I dw) := (HBL.out.cell (p := ⟨g, k * 5, none⟩) hg).trans (hDk 0 (by omega))
      have D1 : wr.cell? ⟨g, k * 5 + 1, none⟩ = some (I dj) := (HBL.out.cell (p := ⟨g, k * 5 + 1, none⟩) hg).trans (hDk 1 (by omega))
      have D2 : wr.cell? ⟨g, k * 5 + 2, none⟩ = some (I db) := (HBL.out.cell (p := ⟨g, k * 5 + 2, none⟩) hg).trans (hDk 2 (by omega))
      have D3 : wr.cell? ⟨g, k * 5 + 3, none⟩ = some (I de) := (HBL.out.cell (p := ⟨g, k * 5 + 3, none⟩) hg).trans (hDk 3 (by omega))
      have D4 : wr.cell? ⟨g, k * 5 + 4, none⟩ = some (.bool di) := (HBL.out.cell (p := ⟨g, k * 5 + 4, none⟩) hg).trans (hDk 4 (by omega))
      have E0 : wr.cell? ⟨g', k * 5, none⟩ = some (I dw) := (HBL.out.cell (p := ⟨g', k * 5, none⟩) hg').trans (hEk 0 (by omega))
      have E1 : wr.cell? ⟨g', k * 5 + 1, none⟩ = some (I dj) := (HBL.out.cell (p := ⟨g', k * 5 + 1, none⟩) hg').trans (hEk 1 (by omega))
      have E2 : wr.cell? ⟨g', k * 5 + 2, none⟩ = some (I db) := (HBL.out.cell (p := ⟨g', k * 5 + 2, none⟩) hg').trans (hEk 2 (by omega))
      have E3 : wr.cell? ⟨g', k * 5 + 3, none⟩ = some (I de) := (HBL.out.cell (p := ⟨g', k * 5 + 3, none⟩) hg').trans (hEk 3 (by omega))
      have E4 : wr.cell? ⟨g', k * 5 + 4, none⟩ = some (.bool di) := (HBL.out.cell (p := ⟨g', k * 5 + 4, none⟩) hg').trans (hEk 4 (by omega))
      have b0 : ((dw : Int) == (dw : Int)) = true := by simp
      have b1 : ((dj : Int) == (dj : Int)) = true := by simp
      have b2 : (db == db) = true := by simp
      have b3 : (de == de) = true := by simp
      have b4 : (di == di) = true := by simp
      clear hc hc' hDk hEk hd
      go_wp2
      go_quiet (fail)
      go_wp2
      go_roundw
      case rel => exact ⟨k + 1, by omega, by go_num, below_drewN HBL.out _⟩
      case measure => simp [intOf]; omega
    · go_wp2
      go_ret
      exact ⟨rfl, HBL.out⟩
set_option maxHeartbeats 1000000 in
theorem usameInts_t (A A' : Option Addr) (n c c' : Nat) (l : List Int) (w : World) (h : IS w A n c l) (h' : IS w A' n c' l) (hn : n ≤ 1000) :
    Calls Try.prog 17 #[.slice A n c, .slice A' n c'] w fun e w' => e = .returned (.bool true) ∧ Below w.heap.size w w' := by
  have H := Lib.hid h
  have H' := Lib.hid h'
  have HL := Lib.hid h.len
  clear h h'
  go_enter Try.func17, Try.ntmps17
  go_wp2
  go_loopg [13] n (fun m i wr => ∃ k : Nat, k ≤ n ∧ n - k ≤ m ∧ i = .int .i64 k ∧ Below w.heap.size w wr)
  case atStart => exact ⟨0, Nat.zero_le _, by omega, rfl, Below.refl _ _⟩
  case round =>
    obtain ⟨k, hk, hkm, rfl, hnx⟩ := hrel
    have HNX := Lib.hid hnx
    clear hnx
    by_cases hlt : k < n
    · obtain ⟨b, off, rfl, hb, hc⟩ := H.out.at_ (by omega)
      obtain ⟨b', off', rfl, hb', hc'⟩ := H'.out.at_ (by omega)
      have hkl : k < l.length := by rw [HL.out]; exact hlt
      have h0 : wr.cell? ⟨b, off + k, none⟩ = some (I l[k]) := (HNX.out.cell (by exact hb)).trans (hc k hlt)
      have h1 : wr.cell? ⟨b', off' + k, none⟩ = some (I l[k]) := (HNX.out.cell (by exact hb')).trans (hc' k hlt)
      clear hc hc'
      generalize l[k] = x at *
      go_wp2
      go_quiet (fail)
      go_wp2
      go_roundg (gk - 1)
      case measure => omega
      case rel => exact ⟨k + 1, by omega, by omega, by go_num, below_drewN HNX.out _⟩
    · go_wp2
      go_ret
      exact ⟨rfl, HNX.out⟩
set_option maxRecDepth 100000 in
set_option maxHeartbeats 4000000 in
theorem sameTold_any (A A' B B' : Option Addr) (n m c c' d d' : Nat) (L : List Dn) (l : List Int) (w : World) (h : DR w A n L) (h' : DR w A' n L) (g : IS w B m d l) (g' : IS w B' m d' l) (hn : n ≤ 1000) (hm : m ≤ 1000) :
    Calls Try.prog 7 #[.agg #[.slice A n c, .slice B m d], .agg #[.slice A' n c', .slice B' m d']] w fun e w' => e = .returned (.bool true) ∧ Below w.heap.size w w' := by
  obtain ⟨z, hz⟩ : ∃ z, w.heap.size = z := ⟨_, rfl⟩
  have HA : Hid (Below w.heap.size w ((w.alloc (.cells #[.slice A n c, .slice B m d] 26)).alloc (.cells #[.slice A' n c', .slice B' m d'] 26))) := ((Below.refl _ _).alloc (Nat.le_refl _) _).alloc (by simp) _
  have HE := Lib.hid (eqDone_t A A' n c c' L _ (h.below HA.out) (h'.below HA.out) (by omega))
  have HI : Hid (∀ w1, Below w.heap.size w w1 → Calls Try.prog 17 #[.slice B m d, .slice B' m d'] w1 fun e w' => e = .returned (.bool true) ∧ Below w1.heap.size w1 w') := fun w1 hb => usameInts_t B B' m d d' l w1 (g.below hb) (g'.below hb) hm
  have c2 : ∀ w1, Below ((w.alloc (.cells #[.slice A n c, .slice B m d] 26)).alloc (.cells #[.slice A' n c', .slice B' m d'] 26)).heap.size ((w.alloc (.cells #[.slice A n c, .slice B m d] 26)).alloc (.cells #[.slice A' n c', .slice B' m d'] 26)) w1 → w1.cell? ⟨w.heap.size, 1, none⟩ = some (.slice B m d) ∧ w1.cell? ⟨w.heap.size + 1, 1, none⟩ = some (.slice B' m d') := fun w1 hb => by
    have e1 : ((w.alloc (.cells #[.slice A n c, .slice B m d] 26)).alloc (.cells #[.slice A' n c', .slice B' m d'] 26)).heap[w.heap.size]? = some (.cells #[.slice A n c, .slice B m d] 26 (0, 0)) := (Below.heap_alloc _ _ _ (by simp)).trans (heap_alloc_new w _)
    have e2 : ((w.alloc (.cells #[.slice A n c, .slice B m d] 26)).alloc (.cells #[.slice A' n c', .slice B' m d'] 26)).heap[w.heap.size + 1]? = some (.cells #[.slice A' n c', .slice B' m d'] 26 (0, 0)) := by
      have := heap_alloc_new (w.alloc (.cells #[.slice A n c, .slice B m d] 26)) (.cells #[.slice A' n c', .slice B' m d'] 26)
      rw [World.size_alloc] at this
      exact this
    constructor
    · rw [jcell ((hb.block _ (jblk e1)).trans e1)]; rfl
    · rw [jcell ((hb.block _ (jblk e2)).trans e2)]; rfl
  have HC2 := Lib.hid c2
  clear h h' g g' hz c2
  go_enter Try.func7, Try.ntmps7
  go_wp2_with fail
  refine HE.out.mono ?_
  rintro e w1 ⟨rfl, hb1⟩
  obtain ⟨q1, q2⟩ := HC2.out w1 hb1
  have HB1 : Hid (Below w.heap.size w w1) := HA.out.trans (hb1.mono (by simp; omega))
  have HII := Lib.hid (HI.out w1 HB1.out)
  clear hb1
  go_wp2_with fail
  refine HII.out.mono ?_
  rintro e w2 ⟨rfl, hb2⟩
  have HB2 := Lib.hid (HB1.out.trans (hb2.mono HB1.out.size))
  clear hb2
  go_wp2
  go_ret
  exact ⟨rfl, HB2.out⟩
end Go.Proofs.Ytfmdpmebllepeaa
