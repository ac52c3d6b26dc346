/-
  The desk: opOf; the desk in memory; keys.
-/
import Derived.Test.YtpnjnedfcdppaaaGreatDoorDNumsAll
import Derived.Test.YtpnjnedfcdppaaaGreatDoorOpRows
import Derived.Test.YtpnjnedfcdppaaaGreatDoorKKeysAll
namespace Go.Proofs.YtpnjnedfcdppaaaGreatDoor
open Go.RowKit

def op2 (r : Option (List Nat)) : Option (Int × Int × Int) := match r with | some [a, b] => some (1, (a : Int), (b : Int)) | _ => none
def op1 (kind : Nat) (r : Option (List Nat)) : Option (Int × Int × Int) := match r with | some [a] => some ((kind : Int), (a : Int), 0) | _ => none
def dOp (kind : Nat) (l : List (List UInt8)) : Option (Int × Int × Int) := if kind = 1 then op2 (nms 2 l) else op1 kind (nms 1 l)
def RetOp (r : Option (Int × Int × Int)) (w : World) (e : Ending) (w' : World) : Prop :=
  match r with
  | some (k, a, b) => e = .returned (.agg #[I k, I a, I b]) ∧ Below w.heap.size w w'
  | none => e = .panicked (slipC 1) ∧ Below w.heap.size w w'
theorem nms_len {many : Nat} {l : List (List UInt8)} {ks : List Nat} (h : nms many l = some ks) : ks.length = many := by
  unfold nms at h
  split at h
  · next e => rw [nmsL_len h, e]
  · cases h
set_option maxRecDepth 100000 in
set_option maxHeartbeats 4000000 in
theorem opOf_any (kind : Nat) (A : Option Addr) (n c : Nat) (l : List (List UInt8)) (w : World) (h : WS w A n c l) :
    Calls Tryz.prog 94 #[I kind, .slice A n c] w (RetOp (dOp kind l) w) := by
  by_cases hk : kind = 1
  · subst hk
    have hb0 : Below w.heap.size w (w.alloc (.cells #[I 0, I 0, I 0] 69)) := (Below.refl _ _).alloc (Nat.le_refl _) _
    have HN := Lib.hid (numbersOf_any A n c 2 l _ (h.below hb0) (by omega))
    have HB0 := Lib.hid hb0
    obtain ⟨R, hR⟩ : ∃ R, nms 2 l = R := ⟨_, rfl⟩
    rw [hR] at HN
    have HD : Hid (dOp 1 l = op2 R) := by show _ = _; unfold dOp; rw [if_pos rfl, hR]
    have HLN : Hid (∀ ks, R = some ks → ks.length = 2) := fun ks e => nms_len (by rw [hR, e])
    clear h hR hb0
    go_enter Tryz.func94, Tryz.ntmps94
    go_wp2_with fail
    refine HN.out.mono ?_
    rintro e w2 hr
    cases R with
    | none =>
      obtain ⟨rfl, hb⟩ := hr
      have HB := Lib.hid hb
      clear hb
      go_wp2
      refine ⟨rfl, ?_⟩
      rw [HD.out]
      exact ⟨rfl, HB0.out.trans (HB.out.mono HB0.out.size)⟩
    | some ks =>
      have h2 := HLN.out ks rfl
      obtain ⟨a, b, rfl⟩ : ∃ a b, ks = [a, b] := by
        match ks, h2 with
        | [a, b], _ => exact ⟨a, b, rfl⟩
      obtain ⟨g, rfl, hI, hg, hb⟩ := hr
      have c0 : w2.cell? ⟨g, 0, none⟩ = some (I a) := by rw [hI.cell]; rfl
      have c1 : w2.cell? ⟨g, 1, none⟩ = some (I b) := by rw [hI.cell]; rfl
      have hsz : (w.alloc (.cells #[I 0, I 0, I 0] 69)).heap.size = w.heap.size + 1 := by simp
      have hw2 : w2.heap[w.heap.size]? = some (.cells #[I 0, I 0, I 0] 69 (0, 0)) := (hb.block _ (by omega)).trans (heap_alloc_new w _)
      have o0 : w2.cell? ⟨w.heap.size, 0, none⟩ = some (I 0) := by simp [World.cell?, hw2]
      have o1 : w2.cell? ⟨w.heap.size, 1, none⟩ = some (I 0) := by simp [World.cell?, hw2]
      have o2 : w2.cell? ⟨w.heap.size, 2, none⟩ = some (I 0) := by simp [World.cell?, hw2]
      have f0 : w2.frozen? ⟨w.heap.size, 0, none⟩ = false := by simp [World.frozen?, hw2]
      have f1 : w2.frozen? ⟨w.heap.size, 1, none⟩ = false := by simp [World.frozen?, hw2]
      have f2 : w2.frozen? ⟨w.heap.size, 2, none⟩ = false := by simp [World.frozen?, hw2]
      have HB : Hid (Below w.heap.size w w2) := HB0.out.trans (hb.mono HB0.out.size)
      clear hb hI hsz hw2
      go_wp2
      go_region
      all_goals go_wp2
      all_goals
        refine bodyPost_ret (v := .agg #[I 1, I a, I b]) (by simp [results, Tryz.results94, go_sem, o0, o1, o2]) rfl ?_
        rw [HD.out]
        exact ⟨rfl, (((HB.out.drew).setCell (p := ⟨w.heap.size, 0, none⟩) (Nat.le_refl _) _).setCell (p := ⟨w.heap.size, 1, none⟩) (Nat.le_refl _) _).setCell (p := ⟨w.heap.size, 2, none⟩) (Nat.le_refl _) _⟩
  · have hk1 : ((kind : Int) == 1) = false := by rw [beq_eq_false_iff_ne]; omega
    have hb0 : Below w.heap.size w (w.alloc (.cells #[I 0, I 0, I 0] 69)) := (Below.refl _ _).alloc (Nat.le_refl _) _
    have HN := Lib.hid (numbersOf_any A n c 1 l _ (h.below hb0) (by omega))
    have HB0 := Lib.hid hb0
    obtain ⟨R, hR⟩ : ∃ R, nms 1 l = R := ⟨_, rfl⟩
    rw [hR] at HN
    have HD : Hid (dOp kind l = op1 kind R) := by show _ = _; unfold dOp; rw [if_neg hk, hR]
    have HLN : Hid (∀ ks, R = some ks → ks.length = 1) := fun ks e => nms_len (by rw [hR, e])
    clear h hR hb0 hk
    go_enter Tryz.func94, Tryz.ntmps94
    go_wp2_with fail
    refine HN.out.mono ?_
    rintro e w2 hr
    cases R with
    | none =>
      obtain ⟨rfl, hb⟩ := hr
      have HB := Lib.hid hb
      clear hb
      go_wp2
      refine ⟨rfl, ?_⟩
      rw [HD.out]
      exact ⟨rfl, HB0.out.trans (HB.out.mono HB0.out.size)⟩
    | some ks =>
      have h2 := HLN.out ks rfl
      obtain ⟨a, rfl⟩ : ∃ a, ks = [a] := by
        match ks, h2 with
        | [a], _ => exact ⟨a, rfl⟩
      obtain ⟨g, rfl, hI, hg, hb⟩ := hr
      have c0 : w2.cell? ⟨g, 0, none⟩ = some (I a) := by rw [hI.cell]; rfl
      have hsz : (w.alloc (.cells #[I 0, I 0, I 0] 69)).heap.size = w.heap.size + 1 := by simp
      have hw2 : w2.heap[w.heap.size]? = some (.cells #[I 0, I 0, I 0] 69 (0, 0)) := (hb.block _ (by omega)).trans (heap_alloc_new w _)
      have o0 : w2.cell? ⟨w.heap.size, 0, none⟩ = some (I 0) := by simp [World.cell?, hw2]
      have o1 : w2.cell? ⟨w.heap.size, 1, none⟩ = some (I 0) := by simp [World.cell?, hw2]
      have o2 : w2.cell? ⟨w.heap.size, 2, none⟩ = some (I 0) := by simp [World.cell?, hw2]
      have f0 : w2.frozen? ⟨w.heap.size, 0, none⟩ = false := by simp [World.frozen?, hw2]
      have f1 : w2.frozen? ⟨w.heap.size, 1, none⟩ = false := by simp [World.frozen?, hw2]
      have f2 : w2.frozen? ⟨w.heap.size, 2, none⟩ = false := by simp [World.frozen?, hw2]
      have HB : Hid (Below w.heap.size w w2) := HB0.out.trans (hb.mono HB0.out.size)
      clear hb hI hsz hw2
      go_wp2
      refine bodyPost_ret (v := .agg #[I kind, I a, I 0]) (by simp [results, Tryz.results94, go_sem, o0, o1, o2]) rfl ?_
      rw [HD.out]
      exact ⟨rfl, ((HB.out.setCell (p := ⟨w.heap.size, 0, none⟩) (Nat.le_refl _) _).setCell (p := ⟨w.heap.size, 1, none⟩) (Nat.le_refl _) _).setCell (p := ⟨w.heap.size, 2, none⟩) (Nat.le_refl _) _⟩
end Go.Proofs.YtpnjnedfcdppaaaGreatDoor
