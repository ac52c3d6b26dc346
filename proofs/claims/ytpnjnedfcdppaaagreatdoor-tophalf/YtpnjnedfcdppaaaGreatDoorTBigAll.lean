/-
  Joined texts: YtpnjnedfcdppaaaGreatDoorTOk, YtpnjnedfcdppaaaGreatDoorTBig.
-/
import Derived.Test.YtpnjnedfcdppaaaGreatDoorInts
import Derived.Deep.LoopGhost
/-
  hedgtop.ok; two rows of numbers that grow side by side.
-/
namespace Go.Proofs.YtpnjnedfcdppaaaGreatDoor
open Go.RowKit

set_option maxHeartbeats 1000000 in
theorem tok_any (A : Option Addr) (n c : Nat) (l : List Int) (w : World) (h : IS w A n c l) (hn : n ≤ 1000) (hz : ∀ x ∈ l, x = 0) :
    Calls Tryz.prog 32 #[.slice A n c] w fun e w' => e = .returned (.bool true) ∧ w = w' := by
  have H := Lib.hid h
  have Hlen := Lib.hid h.len
  have HZ := Lib.hid hz
  clear h hz
  go_enter Tryz.func32, Tryz.ntmps32
  go_wp2
  go_loop [7] (fun i => ∃ j : Nat, j ≤ n ∧ i = .int .i64 j) (fun i => n - (intOf i).toNat)
  case atStart => exact ⟨0, Nat.zero_le _, rfl⟩
  case round =>
    obtain ⟨j, hj, rfl⟩ := hrel
    by_cases hlt : j < n
    · obtain ⟨b, off, rfl, hb, hcs⟩ := H.out.at_ (by omega)
      have hjl : j < l.length := by rw [Hlen.out]; exact hlt
      have hc0 : w.cell? ⟨b, off + j, none⟩ = some (I 0) := by rw [hcs j hlt, HZ.out _ (List.getElem_mem hjl)]
      clear hcs
      go_wp2
      go_round
      case rel => exact ⟨j + 1, by omega, by go_num⟩
      case measure => simp [intOf]; omega
    · go_wp2
      go_ret
      exact ⟨rfl, rfl⟩


/-- two rows of the call's own, each in its block -/
structure Tw2 (w : World) (B e f s s' : Nat) (a b : Value) (n m : Nat) (xs ys : List Value) : Prop where
  fa : w.ownsRow B e s a n xs
  fb : w.ownsRow B f s' b m ys
  ne : ∀ g, a.ownBlock = some g → b.ownBlock ≠ some g
theorem Tw2.symm {w : World} {B e f s s' : Nat} {a b : Value} {n m : Nat} {xs ys : List Value} (h : Tw2 w B e f s s' a b n m xs ys) : Tw2 w B f e s' s b a m n ys xs := ⟨h.fb, h.fa, fun g h1 h2 => h.ne g h2 h1⟩
theorem Tw2.below {w w' : World} {B e f s s' : Nat} {a b : Value} {n m : Nat} {xs ys : List Value} (h : Tw2 w B e f s s' a b n m xs ys) (hb : Below w.heap.size w w') : Tw2 w' B e f s s' a b n m xs ys := ⟨own_below h.fa hb, own_below h.fb hb, h.ne⟩
theorem own_lt2 {w : World} {B e s n : Nat} {v : Value} {xs : List Value} (h : w.ownsRow B e s v n xs) : ∀ g, v.ownBlock = some g → g < w.heap.size := by
  intro g hg
  rcases h.2 with ⟨rfl, _⟩ | ⟨g', cap, cur, rfl, hb, hc, _⟩
  · simp [Value.ownBlock] at hg
  · simp [Value.ownBlock] at hg
    subst hg
    exact (Array.getElem?_eq_some_iff.1 hc).1
/-- the first of them grew -/
theorem Tw2.fst {w X w' : World} {B e f s s' : Nat} {a b a' : Value} {n m n' : Nat} {xs ys xs' : List Value} (h : Tw2 w B e f s s' a b n m xs ys) (hX : Below w.heap.size w X) (hg : X.grownBy w' a.ownBlock) (hown : w'.ownsRow B e s a' n' xs') (hat : a'.ownBlock = a.ownBlock ∨ a'.ownBlock = some X.heap.size) : Tw2 w' B e f s s' a' b n' m xs' ys := by
  have hb := own_below h.fb hX
  refine ⟨hown, hb.kept hg ?_, fun g h1 h2 => ?_⟩
  · cases hbo : b.ownBlock with
    | none => exact .inl rfl
    | some g => exact .inr fun e => h.ne g e.symm hbo
  · rcases hat with ha | ha
    · exact h.ne g (ha ▸ h1) h2
    · rw [ha] at h1
      cases h1
      have := own_lt2 h.fb _ h2
      have := hX.size
      omega
end Go.Proofs.YtpnjnedfcdppaaaGreatDoor

/-
  hedgtop: is a key too big for halves; slices.ContainsFunc with it.
-/
namespace Go.Proofs.YtpnjnedfcdppaaaGreatDoor
open Go.RowKit

def isBig (x : Int) : Bool := decide (65535 < x)
theorem isBig_any (x : Int) (w : World) : Calls Tryz.prog 35 #[I x] w fun e w' => e = .returned (.bool (isBig x)) ∧ w = w' := by
  go_enter Tryz.func35, Tryz.ntmps35
  go_wp2
  go_ret
  exact ⟨rfl, rfl⟩
set_option maxRecDepth 100000 in
set_option maxHeartbeats 1000000 in
theorem ixBig_any (A : Option Addr) (n c : Nat) (l : List Int) (w : World) (h : IS w A n c l) (hn : n ≤ 1000) :
    Calls Tryz.prog 76 #[.slice A n c, .func (.func 35) #[] #[]] w fun e w' => (∃ k : Int, e = .returned (I k) ∧ decide (0 ≤ k) = l.any isBig ∧ -1 ≤ k ∧ k ≤ 1000) ∧ w = w' := by
  have H := Lib.hid h
  have Hlen := Lib.hid h.len
  clear h
  go_enter Tryz.func76, Tryz.ntmps76
  go_wp2
  go_loop [8] (fun i => ∃ j : Nat, j ≤ n ∧ i = .int .i64 j ∧ ∀ q (hq : q < l.length), q < j → isBig l[q] = false) (fun i => n - (intOf i).toNat)
  case atStart => exact ⟨0, Nat.zero_le _, rfl, fun q _ hq => absurd hq (by omega)⟩
  case round =>
    obtain ⟨j, hj, rfl, hall⟩ := hrel
    by_cases hlt : j < n
    · obtain ⟨b, off, rfl, hb, hcs⟩ := H.out.at_ (by omega)
      have hjl : j < l.length := by rw [Hlen.out]; exact hlt
      have hc0 : w.cell? ⟨b, off + j, none⟩ = some (I l[j]) := hcs j hlt
      have HCALL := Lib.hid (isBig_any l[j] w)
      cases ho : isBig l[j] with
      | true =>
        rw [ho] at HCALL
        have HE : Hid (l.any isBig = true) := by show _ = _; rw [List.any_eq_true]; exact ⟨_, List.getElem_mem hjl, ho⟩
        clear hcs hall ho
        go_wp2_with fail
        refine HCALL.out.mono ?_
        rintro e w1 ⟨rfl, rfl⟩
        go_wp2
        go_ret
        exact ⟨⟨j, rfl, by rw [HE.out]; simp, by omega, by omega⟩, rfl⟩
      | false =>
        rw [ho] at HCALL
        have HE : Hid (∀ q (hq : q < l.length), q < j + 1 → isBig l[q] = false) := fun q hq h1 => by
          rcases Nat.lt_or_ge q j with h2 | h2
          · exact hall q hq h2
          · obtain rfl : q = j := by omega
            exact ho
        clear hcs hall ho
        go_wp2_with fail
        refine HCALL.out.mono ?_
        rintro e w1 ⟨rfl, rfl⟩
        go_wp2
        go_round
        case rel => exact ⟨j + 1, by omega, by go_num, HE.out⟩
        case measure => simp [intOf]; omega
    · have HE : Hid (l.any isBig = false) := by
        show _ = _
        rw [List.any_eq_false]
        intro x hx
        obtain ⟨q, hq, rfl⟩ := List.getElem_of_mem hx
        rw [hall q hq (by rw [Hlen.out] at hq; omega)]
        simp
      clear hall
      go_wp2
      go_ret
      exact ⟨⟨-1, rfl, by rw [HE.out]; decide, by omega, by omega⟩, rfl⟩
set_option maxRecDepth 100000 in
theorem contBig_any (A : Option Addr) (n c : Nat) (l : List Int) (w : World) (h : IS w A n c l) (hn : n ≤ 1000) :
    Calls Tryz.prog 34 #[.slice A n c, .func (.func 35) #[] #[]] w fun e w' => e = .returned (.bool (l.any isBig)) ∧ w = w' := by
  have HX := Lib.hid (ixBig_any A n c l w h hn)
  clear h
  go_enter Tryz.func34, Tryz.ntmps34
  go_wp2_with fail
  refine HX.out.mono ?_
  rintro e w1 ⟨⟨k, rfl, hk, hk1, hk2⟩, rfl⟩
  have HK := Lib.hid hk
  clear hk
  go_wp2
  go_ret
  exact ⟨by rw [← HK.out]; rfl, rfl⟩

end Go.Proofs.YtpnjnedfcdppaaaGreatDoor
