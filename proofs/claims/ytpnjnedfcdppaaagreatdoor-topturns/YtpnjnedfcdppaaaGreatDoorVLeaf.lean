/-
  package vine: topFrom, fullUpTo, wayRight.
-/
import Derived.Test.YtpnjnedfcdppaaaGreatDoorSChkAll
import Derived.Test.YtpnjnedfcdppaaaGreatDoorSRow
import Derived.Test.YtpnjnedfcdppaaaGreatDoorInts
import Derived.Test.YtpnjnedfcdppaaaGreatDoorVTurn
import Derived.IntWalk
import Derived.Deep.LoopGhost
namespace Go.Proofs.YtpnjnedfcdppaaaGreatDoor
open Go.RowKit

/-- the top of those from r on, up to k -/
def TopFr (l : PL) (r k j : Nat) : Prop := r ≤ j ∧ (∀ i, r ≤ i → i < k → dp l j ≤ dp l i) ∧ ∀ i, r ≤ i → i < j → dp l j < dp l i
theorem topFr_less {l : PL} {r k j : Nat} (h : TopFr l r k j) (hk : r ≤ k) (hd : dp l k < dp l j) : TopFr l r (k + 1) k := by
  refine ⟨hk, fun i hr hi => ?_, fun i hr hi => ?_⟩
  · rcases Nat.lt_or_ge i k with h1 | h1
    · have := h.2.1 i hr h1; omega
    · obtain rfl : i = k := by omega
      exact Int.le_refl _
  · have := h.2.1 i hr hi; omega
theorem topFr_same {l : PL} {r k j : Nat} (h : TopFr l r k j) (hd : ¬ dp l k < dp l j) : TopFr l r (k + 1) j := by
  refine ⟨h.1, fun i hr hi => ?_, h.2.2⟩
  rcases Nat.lt_or_ge i k with h1 | h1
  · exact h.2.1 i hr h1
  · obtain rfl : i = k := by omega
    omega
theorem topFr_one {l : PL} {r n i j : Nat} (h : TopFr l r n i) (h' : TopFr l r n j) (hi : i < n) (hj : j < n) : i = j := by
  obtain ⟨a1, a2, a3⟩ := h
  obtain ⟨b1, b2, b3⟩ := h'
  rcases Nat.lt_trichotomy i j with h | h | h
  · have := b3 i a1 h; have := a2 j b1 hj; omega
  · exact h
  · have := a3 j b1 h; have := b2 i a1 hi; omega
/-- behind what is ahead the top of a tree is found -/
theorem topFr_sp (pre post : PL) (a b : Tr) (k d : Int) : TopFr (pre ++ (Tr.node a k b).sp d ++ post) pre.length (pre.length + (Tr.node a k b).size) (pre.length + a.size) := by
  have hr := (sp_root a b k d).1
  have e : ∀ i, pre.length ≤ i → i < pre.length + (Tr.node a k b).size → dp (pre ++ (Tr.node a k b).sp d ++ post) i = dp ((Tr.node a k b).sp d) (i - pre.length) := fun i h1 h2 => dp_in3 _ _ _ _ h1 (by rw [sp_length]; exact h2)
  have hs : (Tr.node a k b).size = a.size + 1 + b.size := rfl
  have e0 : dp (pre ++ (Tr.node a k b).sp d ++ post) (pre.length + a.size) = d := by
    rw [e _ (by omega) (by omega), Nat.add_sub_cancel_left]
    exact hr
  refine ⟨by omega, fun i h1 h2 => ?_, fun i h1 h2 => ?_⟩
  · rw [e0, e i h1 h2]
    exact sp_ge _ d _ (by omega)
  · rw [e0, e i h1 (by omega)]
    exact sp_gt a b k d _ (by omega) (by omega)

set_option maxHeartbeats 1000000 in
theorem topFrom_any (A : Option Addr) (n c r j : Nat) (l : PL) (w : World) (h : PS w A n c l) (hn : n ≤ 1000) (hr : r < n) (hj : j < n) (ht : TopFr l r n j) :
    Calls Tryz.prog 153 #[.slice A n c, I r] w fun e w' => e = .returned (I j) ∧ Below w.heap.size w w' := by
  have HT := Lib.hid ht
  obtain ⟨b, off, rfl, hb, hc⟩ := h.dat (by omega)
  have HC := Lib.hid hc
  clear hc h ht
  go_enter Tryz.func153, Tryz.ntmps153
  go_wp2
  go_loopg [5, 6] n (fun m t i wr => ∃ k x : Nat, k ≤ n ∧ r ≤ k ∧ n - k ≤ m ∧ x < n ∧ i = .int .i64 k ∧ t = .int .i64 x ∧ TopFr l r k x ∧ Below w.heap.size w wr)
  case atStart => exact ⟨r, r, by omega, Nat.le_refl _, by omega, hr, rfl, rfl, ⟨Nat.le_refl _, fun i h1 h2 => absurd h1 (by omega), fun i h1 h2 => absurd h1 (by omega)⟩, Below.refl _ _⟩
  case round =>
    obtain ⟨k, x, hk, hrk, hkm, hx, rfl, rfl, htop, hnx⟩ := hrel
    by_cases hlt : k < n
    · have hc1 : wr.cell? ⟨b, off + k * 2 + 1, none⟩ = some (I (dp l k)) := (hnx.cell (by exact hb)).trans (HC.out k hlt).2
      have hj1 : wr.cell? ⟨b, off + x * 2 + 1, none⟩ = some (I (dp l x)) := (hnx.cell (by exact hb)).trans (HC.out x hx).2
      have HNX := Lib.hid hnx
      by_cases hd : dp l k < dp l x
      · have HF := Lib.hid (topFr_less htop hrk hd)
        clear htop hnx
        go_wp2
        go_quiet (fail)
        go_wp2
        go_roundg (n - (k + 1))
        case rel => exact ⟨k + 1, k, by omega, by omega, by omega, hlt, by go_num, rfl, HF.out, below_drewN HNX.out _⟩
        case measure => omega
      · have HF := Lib.hid (topFr_same htop hd)
        clear htop hnx
        go_wp2
        go_quiet (fail)
        go_wp2
        go_roundg (n - (k + 1))
        case rel => exact ⟨k + 1, x, by omega, by omega, by omega, hx, by go_num, rfl, HF.out, below_drewN HNX.out _⟩
        case measure => omega
    · obtain rfl : k = n := by omega
      have HF : Hid (x = j) := topFr_one htop HT.out hx hj
      have HNX := Lib.hid hnx
      clear htop hnx
      go_wp2
      go_ret
      exact ⟨ret_int (by rw [HF.out]), HNX.out⟩

/-- the places on the way to the right -/
def wyR : Nat → Tr → List Int
  | _, .nil => []
  | o, .node a _ b => ((o + a.size : Nat) : Int) :: wyR (o + a.size + 1) b
theorem wyR_length : ∀ (t : Tr) (o : Nat), (wyR o t).length = t.rsp
  | .nil, _ => rfl
  | .node a k b, o => by simp [wyR, Tr.rsp, wyR_length b]
theorem rsp_le : ∀ t : Tr, t.rsp ≤ t.size
  | .nil => Nat.le_refl _
  | .node a k b => by
    have := rsp_le b
    simp only [Tr.rsp, Tr.size]
    omega

end Go.Proofs.YtpnjnedfcdppaaaGreatDoor
