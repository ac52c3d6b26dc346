/-
  What DeskZip wants: numbers told and read again; keys put in whatever order: plain. No program is walked.
-/
import Derived.Test.YtpnjnedfcdppaaaGreatDoorDZipP
namespace Go.Proofs.YtpnjnedfcdppaaaGreatDoor

/- numbers: told, then read -/
theorem nmA_app : ∀ (a b : List UInt8) (v : Nat), nmA v (a ++ b) = (nmA v a).bind fun x => nmA x b
  | [], b, v => rfl
  | x :: t, b, v => by
    rw [List.cons_append, nmA, nmA]
    split
    · exact nmA_app t b _
    · rfl
theorem nmA_digit (v d : Nat) (h : d < 10) : nmA v [UInt8.ofNat (48 + d)] = some (v * 10 + d) := by
  have e : (UInt8.ofNat (48 + d)).toNat = 48 + d := by simp; omega
  rw [nmA, e, if_pos (by omega), nmA]
  congr 1
  omega
theorem nmA_dgF : ∀ (f k : Nat), k < 10 ^ (f + 1) → nmA 0 (dgF (f + 1) k) = some k
  | 0, k, h => by
    rw [dgF, if_pos (by simpa using h), nmA_digit 0 k (by simpa using h)]
    simp
  | f + 1, k, h => by
    rw [dgF]
    split
    · next h1 => rw [nmA_digit 0 k h1]; simp
    · rw [nmA_app, nmA_dgF f (k / 10) (by rw [Nat.pow_succ] at h; omega)]
      show nmA (k / 10) _ = _
      rw [nmA_digit _ _ (Nat.mod_lt _ (by omega))]
      congr 1
      omega
theorem dgF_few : ∀ (m f k : Nat), k < 10 ^ (m + 1) → (dgF f k).length ≤ m + 1
  | _, 0, _, _ => by simp [dgF]
  | m, f + 1, k, h => by
    rw [dgF]
    split
    · simp
    · cases m with
      | zero => simp at h; omega
      | succ m =>
        have := dgF_few m f (k / 10) (by rw [Nat.pow_succ] at h; omega)
        simp
        omega
theorem nmb_dg {k : Nat} (h : k ≤ 1000000) : nmb (dg k) = some k := by
  unfold nmb
  have h1 := dgF_few 6 20 k (by omega)
  rw [if_neg (by show ¬ 7 < (dgF 20 k).length; omega)]
  exact nmA_dgF 19 k (by omega)
/- a digit is no blank, no tab, no semicolon, no line feed -/
theorem dgF_digit : ∀ (f k : Nat), ∀ b ∈ dgF f k, 48 ≤ b.toNat ∧ b.toNat ≤ 57
  | 0, _, b, h => by cases h
  | f + 1, k, b, h => by
    rw [dgF] at h
    have key : ∀ d, d < 10 → b ∈ [UInt8.ofNat (48 + d)] → 48 ≤ b.toNat ∧ b.toNat ≤ 57 := fun d hd hb => by
      rw [List.mem_singleton.1 hb]
      have e : (UInt8.ofNat (48 + d)).toNat = 48 + d := by simp; omega
      rw [e]
      omega
    split at h
    · next h1 => exact key k h1 h
    · rcases List.mem_append.1 h with h | h
      · exact dgF_digit f _ b h
      · exact key _ (Nat.mod_lt _ (by omega)) h
theorem dg_digit (k : Nat) : ∀ b ∈ dg k, 48 ≤ b.toNat ∧ b.toNat ≤ 57 := dgF_digit 20 k
theorem dg_not (k : Nat) (c : UInt8) (hc : c.toNat < 48 ∨ 57 < c.toNat) : ∀ b ∈ dg k, b ≠ c := fun b hb e => by
  have := dg_digit k b hb
  rw [e] at this
  omega
theorem dg_ne (k : Nat) : dg k ≠ [] := by
  unfold dg
  rw [dgF]
  split
  · simp
  · simp
/-- joined by a blank, then parted at it -/
theorem spl_tail (c : UInt8) : ∀ (r : List (List UInt8)) (x : List UInt8), (∀ y ∈ x :: r, ∀ b ∈ y, b ≠ c) → spl c (x ++ Lib.joinTail [c] r) = x :: r
  | [], x, h => by
    show spl c (x ++ []) = _
    rw [List.append_nil]
    exact spl_no c (h x (by simp))
  | y :: r, x, h => by
    have e : x ++ Lib.joinTail [c] (y :: r) = x ++ c :: (y ++ Lib.joinTail [c] r) := by simp [Lib.joinTail]
    rw [e, spl_at, spl_no c (h x (by simp)), spl_tail c r y fun z hz => h z (by simp [List.mem_cons.1 hz])]
    rfl
theorem spl_jnd {l : List Int} (h : l ≠ []) : spl 32 (jnd l) = l.map fun x => dg x.toNat := by
  cases l with
  | nil => exact absurd rfl h
  | cons x r =>
    show spl 32 (Lib.join (dg x.toNat :: r.map fun x => dg x.toNat) [32]) = _
    rw [Lib.join_cons, spl_tail]
    · rfl
    · intro y hy
      have hy' : y ∈ (x :: r).map fun x => dg x.toNat := hy
      obtain ⟨k, _, rfl⟩ := List.mem_map.1 hy'
      exact dg_not _ 32 (by decide)
/- a line that puts a key -/
def putW (k : Nat) : List UInt8 := [112, 117, 116, 32] ++ dg k ++ [32, 48]
theorem putW_no (k : Nat) (c : UInt8) (hc : c = 10 ∨ c = 59 ∨ c = 9) : ∀ b ∈ putW k, b ≠ c := by
  intro b hb
  unfold putW at hb
  rcases List.mem_append.1 hb with hb | hb
  · rcases List.mem_append.1 hb with hb | hb
    · rcases hc with rfl | rfl | rfl <;> (simp at hb; rcases hb with rfl | rfl | rfl | rfl <;> decide)
    · exact dg_not k c (by rcases hc with rfl | rfl | rfl <;> decide) b hb
  · rcases hc with rfl | rfl | rfl <;> (simp at hb; rcases hb with rfl | rfl <;> decide)
theorem tw_all {c : UInt8} : ∀ {l : List UInt8}, (∀ b ∈ l, b ≠ c) → l.takeWhile (· != c) = l
  | [], _ => rfl
  | x :: t, h => by
    have hx : (x != c) = true := by simpa using h x (by simp)
    rw [List.takeWhile_cons, hx, if_pos rfl, tw_all fun b hb => h b (by simp [hb])]
theorem putW_dln (k : Nat) : dln (putW k) = [[[112, 117, 116], dg k, [48]]] := by
  have hw : wds (putW k) = [[112, 117, 116], dg k, [48]] := by
    rw [wds_spl, map_no (putW_no k 9 (by simp))]
    have e : putW k = [112, 117, 116] ++ 32 :: (dg k ++ 32 :: [48]) := by simp [putW]
    rw [e, spl_at, spl_at, spl_no 32 (dg_not k 32 (by decide)), spl_no 32 (l := [112, 117, 116]) (by decide), spl_no 32 (l := [48]) (by decide)]
    have hne : (dg k).isEmpty = false := by
      cases h : dg k with
      | nil => exact absurd h (dg_ne k)
      | cons a t => rfl
    simp [hne]
  unfold dln
  rw [spl_no 10 (putW_no k 10 (by simp)), List.map_cons, List.map_nil, tw_all (putW_no k 59 (by simp)), hw]
  rfl
end Go.Proofs.YtpnjnedfcdppaaaGreatDoor
