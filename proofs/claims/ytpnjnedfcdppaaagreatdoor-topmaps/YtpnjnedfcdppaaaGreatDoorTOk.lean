/-
  hedgtop.ok; two rows of numbers that grow side by side.
-/
import Derived.Test.YtpnjnedfcdppaaaGreatDoorInts
import Derived.Deep.LoopGhost
namespace Go.Proofs.YtpnjnedfcdppaaaGreatDoor
open Go.RowKit

set_option maxHeartbeats 1000000 in
theorem tok_any (A : Option Addr) (n c : Nat) (l : List Int) (w : World) (h : IS w A n c l) (hn : n ≤ 1000) (hz : ∀ x ∈ l, x = 0) :
    Calls Tryz.prog 32 #[.slice A n c] w fun e w' => e = .returned (.bool true) ∧ w = w' := by
  have H := Lib.hid h
  have Hlen := Lib.hid h.len
  have HZ := Lib.hid hz
  clear h hz
  go_enter Tryz.func32, Tryz.ntmps32
  go_wp2
  go_loop [7] (fun i => ∃ j : Nat, j ≤ n ∧ i = .int .i64 j) (fun i => n - (intOf i).toNat)
  case atStart => exact ⟨0, Nat.zero_le _, rfl⟩
  case round =>
    obtain ⟨j, hj, rfl⟩ := hrel
    by_cases hlt : j < n
    · obtain ⟨b, off, rfl, hb, hcs⟩ := H.out.at_ (by omega)
      have hjl : j < l.length := by rw [Hlen.out]; exact hlt
      have hc0 : w.cell? ⟨b, off + j, none⟩ = some (I 0) := by rw [hcs j hlt, HZ.out _ (List.getElem_mem hjl)]
      clear hcs
      go_wp2
      go_round
      case rel => exact ⟨j + 1, by omega, by go_num⟩
      case measure => simp [intOf]; omega
    · go_wp2
      go_ret
      exact ⟨rfl, rfl⟩


/-- two rows of the call's own, each in its block -/
structure Tw2 (w : World) (B e f s s' : Nat) (a b : Value) (n m : Nat) (xs ys : List Value) : Prop where
  fa : w.ownsRow B e s a n xs
  fb : w.ownsRow B f s' b m ys
  ne : ∀ g, a.ownBlock = some g → b.ownBlock ≠ some g
theorem Tw2.symm {w : World} {B e f s s' : Nat} {a b : Value} {n m : Nat} {xs ys : List Value} (h : Tw2 w B e f s s' a b n m xs ys) : Tw2 w B f e s' s b a m n ys xs := ⟨h.fb, h.fa, fun g h1 h2 => h.ne g h2 h1⟩
theorem Tw2.below {w w' : World} {B e f s s' : Nat} {a b : Value} {n m : Nat} {xs ys : List Value} (h : Tw2 w B e f s s' a b n m xs ys) (hb : Below w.heap.size w w') : Tw2 w' B e f s s' a b n m xs ys := ⟨own_below h.fa hb, own_below h.fb hb, h.ne⟩
theorem own_lt2 {w : World} {B e s n : Nat} {v : Value} {xs : List Value} (h : w.ownsRow B e s v n xs) : ∀ g, v.ownBlock = some g → g < w.heap.size := by
  intro g hg
  rcases h.2 with ⟨rfl, _⟩ | ⟨g', cap, cur, rfl, hb, hc, _⟩
  · simp [Value.ownBlock] at hg
  · simp [Value.ownBlock] at hg
    subst hg
    exact (Array.getElem?_eq_some_iff.1 hc).1
/-- the first of them grew -/
theorem Tw2.fst {w X w' : World} {B e f s s' : Nat} {a b a' : Value} {n m n' : Nat} {xs ys xs' : List Value} (h : Tw2 w B e f s s' a b n m xs ys) (hX : Below w.heap.size w X) (hg : X.grownBy w' a.ownBlock) (hown : w'.ownsRow B e s a' n' xs') (hat : a'.ownBlock = a.ownBlock ∨ a'.ownBlock = some X.heap.size) : Tw2 w' B e f s s' a' b n' m xs' ys := by
  have hb := own_below h.fb hX
  refine ⟨hown, hb.kept hg ?_, fun g h1 h2 => ?_⟩
  · cases hbo : b.ownBlock with
    | none => exact .inl rfl
    | some g => exact .inr fun e => h.ne g e.symm hbo
  · rcases hat with ha | ha
    · exact h.ne g (ha ▸ h1) h2
    · rw [ha] at h1
      cases h1
      have := own_lt2 h.fb _ h2
      have := hX.size
      omega
end Go.Proofs.YtpnjnedfcdppaaaGreatDoor
