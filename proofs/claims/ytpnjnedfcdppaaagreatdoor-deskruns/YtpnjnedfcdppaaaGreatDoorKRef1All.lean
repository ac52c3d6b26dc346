/-
  Joined texts: YtpnjnedfcdppaaaGreatDoorKTab, YtpnjnedfcdppaaaGreatDoorKPure, YtpnjnedfcdppaaaGreatDoorKPath0, YtpnjnedfcdppaaaGreatDoorZPure, YtpnjnedfcdppaaaGreatDoorKBits, YtpnjnedfcdppaaaGreatDoorKRef1.
-/
import Derived.Test.YtpnjnedfcdppaaaGreatDoorChecked
import Derived.Test.YtpnjnedfcdppaaaGreatDoorOSpotsAll
import Derived.Lib.TrailingZeros
import Derived.Laws.Bits64
import Derived.Laws.Bits64b
/-
  HEIGHTS: math/bits.TrailingZeros64 over its table, skip.Height.
-/
namespace Go.Proofs.YtpnjnedfcdppaaaGreatDoor
open Go.RowKit

def Tb (w : World) : Prop := ∀ j, j < 64 → w.cell? ⟨3, j, none⟩ = some (.int .u8 (Lib.deBruijn64tab.getD j 0))
theorem Tb.lt {w : World} (h : Tb w) : 3 < w.heap.size := by
  have h0 := h 0 (by decide)
  rcases Nat.lt_or_ge 3 w.heap.size with hlt | hge
  · exact hlt
  · unfold World.cell? at h0; rw [Array.getElem?_eq_none (by exact hge)] at h0; cases h0
theorem Tb.below {w w' : World} {B : Nat} (h : Tb w) (hb : Below B w w') (hB : 3 < B) : Tb w' := fun j hj => (hb.cell (by exact hB)).trans (h j hj)
theorem Tb.next {w w' : World} (h : Tb w) (hb : Below w.heap.size w w') : Tb w' := h.below hb h.lt

theorem low_key (x a : Nat) (hx : x < 18446744073709551616) (hx0 : x ≠ 0) (hlow : x &&& (18446744073709551616 - x) = a) :
    IntKind.u64.wrap (bits BinOp.and IntKind.u64 (x : Int) (IntKind.u64.wrap (-(x : Int))) * 285870213051353865) / 288230376151711744 = ((a * 285870213051353865 % 18446744073709551616 / 288230376151711744 : Nat) : Int) := by
  have e1 : IntKind.u64.wrap (-(x : Int)) = ((18446744073709551616 - x : Nat) : Int) := by rw [IntKind.wrap_u64]; omega
  rw [e1, bits_and_u64_nat x _ hx (by omega), hlow, IntKind.wrap_u64]
  omega

set_option maxHeartbeats 1000000 in
theorem tz_core (x k idx : Nat) (w : World) (hx0 : ((x : Int) == 0) = false)
    (key : IntKind.u64.wrap (bits BinOp.and IntKind.u64 (x : Int) (IntKind.u64.wrap (-(x : Int))) * 285870213051353865) / 288230376151711744 = (idx : Int))
    (hi : idx < 64) (hk : k < 64) (hcell : w.cell? ⟨3, idx, none⟩ = some (.int .u8 k)) :
    Calls Tryz.prog 222 #[.int .u64 x] w fun e w' => e = .returned (I k) ∧ w' = w := by
  go_enter Tryz.func222, Tryz.ntmps222
  go_wp2_with (simp only [key])
  go_ret
  exact ⟨rfl, rfl⟩
theorem tz_zero (w : World) : Calls Tryz.prog 222 #[.int .u64 0] w fun e w' => e = .returned (I 64) ∧ w' = w := by
  go_enter Tryz.func222, Tryz.ntmps222
  go_wp2
  go_ret
  exact ⟨rfl, rfl⟩
theorem tz_any (x : Nat) (hx : x < 18446744073709551616) (w : World) (hT : Tb w) :
    Calls Tryz.prog 222 #[.int .u64 x] w fun e w' => e = .returned (I (Lib.ctz 64 x)) ∧ w' = w := by
  by_cases hx0 : x = 0
  · subst hx0
    exact tz_zero w
  · obtain ⟨hlow, hk⟩ := Lib.lowest_bit 64 x hx0 hx
    obtain ⟨hi, htab⟩ := Lib.deBruijn64_at _ hk
    have hcell := hT _ hi
    rw [htab] at hcell
    exact tz_core x _ _ w (by simp; omega) (low_key x _ hx hx0 hlow) hi hk hcell

def mix1 (x : Nat) : Nat := (x ^^^ x / 1073741824) * 13787848793156543929 % 18446744073709551616
def mix2 (x : Nat) : Nat := (x ^^^ x / 134217728) * 10723151780598845931 % 18446744073709551616
def mix3 (x : Nat) : Nat := x ^^^ x / 2147483648
def mixR (key : Int) : Nat := mix3 (mix2 (mix1 (key % 18446744073709551616).toNat))
def ht (key : Int) : Nat := min (Lib.ctz 64 (mixR key) + 1) 12
theorem mix1_lt (x : Nat) : mix1 x < 18446744073709551616 := Nat.mod_lt _ (by decide)
theorem mix2_lt (x : Nat) : mix2 x < 18446744073709551616 := Nat.mod_lt _ (by decide)
theorem mix3_lt (x : Nat) (h : x < 18446744073709551616) : mix3 x < 18446744073709551616 :=
  Nat.xor_lt_two_pow (n := 64) h (by omega)
theorem ctz_le (x : Nat) (h : x < 18446744073709551616) : Lib.ctz 64 x ≤ 64 := by
  by_cases h0 : x = 0
  · subst h0; decide
  · have := (Lib.lowest_bit 64 x h0 h).2
    omega
theorem mixR_lt (key : Int) : mixR key < 18446744073709551616 := mix3_lt _ (mix2_lt _)
theorem ht_pos (key : Int) : 1 ≤ ht key := by unfold ht; omega
theorem ht_le (key : Int) : ht key ≤ 12 := by unfold ht; omega

theorem x3 (X : Nat) (hX : X < 18446744073709551616) : bits .xor .u64 (X : Int) ((X : Int) / 2147483648) = ((mix3 X : Nat) : Int) := xorShift_u64 X 2147483648 hX
theorem x1 (X : Nat) (hX : X < 18446744073709551616) : IntKind.u64.wrap (bits .xor .u64 (X : Int) ((X : Int) / 1073741824) * 13787848793156543929) = ((mix1 X : Nat) : Int) := mixStep_u64 X 1073741824 13787848793156543929 hX
theorem x2 (X : Nat) (hX : X < 18446744073709551616) : IntKind.u64.wrap (bits .xor .u64 (X : Int) ((X : Int) / 134217728) * 10723151780598845931) = ((mix2 X : Nat) : Int) := mixStep_u64 X 134217728 10723151780598845931 hX
theorem x0 (key : Int) : IntKind.u64.wrap key = (((key % 18446744073709551616).toNat : Nat) : Int) := by rw [IntKind.wrap_u64]; omega

theorem min_ht (c : Nat) : min ((c : Int) + 1) 12 = ((min (c + 1) 12 : Nat) : Int) := by omega

set_option maxHeartbeats 1000000 in
theorem Height_any (key : Int) (w : World) (hT : Tb w) :
    Calls Tryz.prog 191 #[I key] w fun e w' => e = .returned (I (ht key)) ∧ w' = w := by
  obtain ⟨a, ha⟩ : ∃ a, (key % 18446744073709551616).toNat = a := ⟨_, rfl⟩
  have hal : a < 18446744073709551616 := by omega
  have h0 : IntKind.u64.wrap key = (a : Int) := by rw [x0, ha]
  obtain ⟨b, hb⟩ : ∃ b, mix1 a = b := ⟨_, rfl⟩
  have h1 : IntKind.u64.wrap (bits .xor .u64 (a : Int) ((a : Int) / 1073741824) * 13787848793156543929) = (b : Int) := by rw [x1 a hal, hb]
  have hbl : b < 18446744073709551616 := by rw [← hb]; exact mix1_lt _
  obtain ⟨c, hc⟩ : ∃ c, mix2 b = c := ⟨_, rfl⟩
  have h2 : IntKind.u64.wrap (bits .xor .u64 (b : Int) ((b : Int) / 134217728) * 10723151780598845931) = (c : Int) := by rw [x2 b hbl, hc]
  have hcl : c < 18446744073709551616 := by rw [← hc]; exact mix2_lt _
  obtain ⟨d, hd⟩ : ∃ d, mix3 c = d := ⟨_, rfl⟩
  have h3 : bits .xor .u64 (c : Int) ((c : Int) / 2147483648) = (d : Int) := by rw [x3 c hcl, hd]
  have hdl : d < 18446744073709551616 := by rw [← hd]; exact mix3_lt _ hcl
  have hR : mixR key = d := by unfold mixR; rw [ha, hb, hc, hd]
  obtain ⟨z, hz⟩ : ∃ z, Lib.ctz 64 d = z := ⟨_, rfl⟩
  have hzl : z ≤ 64 := by rw [← hz]; exact ctz_le d hdl
  have HH : Hid (((min (z + 1) 12 : Nat) : Int) = (ht key : Int)) := by show _ = _; unfold ht; rw [hR, hz]
  have HT := Lib.hid (show Calls Tryz.prog 222 #[.int .u64 d] w fun e w' => e = .returned (I z) ∧ w' = w by rw [← hz]; exact tz_any d hdl w hT)
  have H0 := Lib.hid h0
  have H1 := Lib.hid h1
  have H2 := Lib.hid h2
  have H3 := Lib.hid h3
  clear ha hb hc hd hR hz h0 h1 h2 h3
  go_enter Tryz.func191, Tryz.ntmps191
  go_wp2_with (first | simp only [H0.out] | simp only [H1.out] | simp only [H2.out] | simp only [H3.out] | fail)
  refine HT.out.mono ?_
  rintro e w' ⟨rfl, rfl⟩
  go_wp2
  all_goals
    go_ret
    refine ⟨ret_int ?_, rfl⟩
    rw [← HH.out, ← min_ht]
    omega
end Go.Proofs.YtpnjnedfcdppaaaGreatDoor

/-
  ROWS AND PATHS, AS LISTS. Nothing of the program but a key's height.
-/
namespace Go.Proofs.YtpnjnedfcdppaaaGreatDoor

def kyB (k : Int) : Bool := decide (0 ≤ k ∧ k ≤ 1000000)
def okK (l : List Int) (i : Nat) : Prop := kyB (l[i]?.getD 0) = true ∧ (0 < i → l[i - 1]?.getD 0 < l[i]?.getD 0)
def okKs (l : List Int) (n : Nat) : Prop := ∀ i, i < n → okK l i
theorem okKs_succ {l : List Int} {n : Nat} (h : okKs l n) (h1 : okK l n) : okKs l (n + 1) := fun i hi => by
  rcases Nat.lt_or_ge i n with h2 | h2
  · exact h i h2
  · obtain rfl : i = n := by omega
    exact h1
open Classical in
noncomputable def chkK (l : List Int) : Int := if 200 < l.length then 2 else if okKs l l.length then 0 else 3
structure Rise (l : List Int) : Prop where
  len : l.length ≤ 200
  pw : l.Pairwise (· < ·)
  bd : ∀ k ∈ l, 0 ≤ k ∧ k ≤ 1000000
theorem okKs_pw (l : List Int) (h : okKs l l.length) : l.Pairwise (· < ·) := by
  rw [List.pairwise_iff_getElem]
  have key : ∀ d i (hi : i + d + 1 < l.length), l[i]'(by omega) < l[i + d + 1] := by
    intro d
    induction d with
    | zero =>
      intro i hi
      have h1 := (h (i + 1) (by omega)).2 (by omega)
      simpa [List.getElem?_eq_getElem (show i < l.length by omega), List.getElem?_eq_getElem (show i + 1 < l.length by omega)] using h1
    | succ d ih =>
      intro i hi
      have h1 := ih i (by omega)
      have h2 := (h (i + (d + 1) + 1) (by omega)).2 (by omega)
      simp only [show i + (d + 1) + 1 - 1 = i + d + 1 by omega, List.getElem?_eq_getElem (show i + d + 1 < l.length by omega), List.getElem?_eq_getElem hi, Option.getD_some] at h2
      omega
  intro i j hi hj hij
  have := key (j - i - 1) i (by omega)
  simpa only [show i + (j - i - 1) + 1 = j by omega] using this
theorem okKs_iff (l : List Int) : okKs l l.length ↔ l.Pairwise (· < ·) ∧ ∀ k ∈ l, 0 ≤ k ∧ k ≤ 1000000 := by
  constructor
  · intro h
    refine ⟨okKs_pw l h, fun k hk => ?_⟩
    obtain ⟨i, hi, rfl⟩ := List.mem_iff_getElem.1 hk
    have := (h i hi).1
    simpa [kyB, List.getElem?_eq_getElem hi] using this
  · rintro ⟨h1, h2⟩ i hi
    refine ⟨?_, fun h0 => ?_⟩
    · have := h2 l[i] (List.getElem_mem hi)
      simpa [kyB, List.getElem?_eq_getElem hi] using this
    · have := List.pairwise_iff_getElem.1 h1 (i - 1) i (by omega) hi (by omega)
      simpa [List.getElem?_eq_getElem hi, List.getElem?_eq_getElem (show i - 1 < l.length by omega)] using this
theorem chkK_zero {l : List Int} : chkK l = 0 ↔ Rise l := by
  unfold chkK
  constructor
  · intro h
    split at h
    · cases h
    · split at h
      · rename_i h1 h2
        obtain ⟨h3, h4⟩ := (okKs_iff l).1 h2
        exact ⟨by omega, h3, h4⟩
      · cases h
  · rintro ⟨h1, h2, h3⟩
    rw [if_neg (by omega), if_pos ((okKs_iff l).2 ⟨h2, h3⟩)]

def rowL (l : List Int) (r : Nat) : List Int := l.filter fun k => decide (r < ht k)
theorem rowL_high (l : List Int) (r : Nat) (h : 12 ≤ r) : rowL l r = [] := List.filter_eq_nil_iff.2 fun k _ => by have := ht_le k; simp; omega
theorem rowL_mono (l : List Int) {r s : Nat} (h : r ≤ s) (hs : rowL l s ≠ []) : rowL l r ≠ [] := by
  obtain ⟨k, hk⟩ := List.exists_mem_of_ne_nil _ hs
  unfold rowL at hk
  rw [List.mem_filter] at hk
  refine List.ne_nil_of_mem (a := k) ?_
  unfold rowL
  rw [List.mem_filter]
  exact ⟨hk.1, by have := hk.2; simp at *; omega⟩
theorem rowL_append (l : List Int) (k : Int) (r : Nat) : rowL (l ++ [k]) r = if r < ht k then rowL l r ++ [k] else rowL l r := by
  unfold rowL
  rw [List.filter_append]
  by_cases h : r < ht k <;> simp [h]
theorem rowL_pw {l : List Int} (h : l.Pairwise (· < ·)) (r : Nat) : (rowL l r).Pairwise (· < ·) := h.sublist List.filter_sublist
theorem rowL_len (l : List Int) (r : Nat) : (rowL l r).length ≤ l.length := List.length_filter_le _ _

def hiTo (l : List Int) : Nat → Nat
  | 0 => 0
  | n + 1 => if rowL l n = [] then hiTo l n else n + 1
def hiR (l : List Int) : Nat := hiTo l 12
theorem hiTo_le (l : List Int) (n : Nat) : hiTo l n ≤ n := by
  induction n with
  | zero => exact Nat.le_refl _
  | succ n ih => unfold hiTo; split <;> omega
theorem hiTo_some (l : List Int) (n : Nat) : ∀ r, r < hiTo l n → rowL l r ≠ [] := by
  induction n with
  | zero => intro r h; simp [hiTo] at h
  | succ n ih =>
    intro r h
    unfold hiTo at h
    split at h
    · exact ih r h
    · rename_i h1
      exact rowL_mono l (by omega) h1
theorem hiTo_none (l : List Int) (n : Nat) : ∀ r, hiTo l n ≤ r → r < n → rowL l r = [] := by
  induction n with
  | zero => intro r _ h; omega
  | succ n ih =>
    intro r h h2
    unfold hiTo at h
    split at h
    · rename_i h1
      rcases Nat.lt_or_ge r n with h3 | h3
      · exact ih r h h3
      · obtain rfl : r = n := by omega
        exact h1
    · omega
theorem hiR_le (l : List Int) : hiR l ≤ 12 := hiTo_le l 12
theorem hiR_some (l : List Int) (r : Nat) (h : r < hiR l) : rowL l r ≠ [] := hiTo_some l 12 r h
theorem hiR_none (l : List Int) (r : Nat) (h : hiR l ≤ r) : rowL l r = [] := by
  rcases Nat.lt_or_ge r 12 with h1 | h1
  · exact hiTo_none l 12 r h h1
  · exact rowL_high l r h1
def rowsL (l : List Int) : List (List Int) := (List.range (hiR l)).map (rowL l)
theorem rowsL_len (l : List Int) : (rowsL l).length = hiR l := by simp [rowsL]
theorem rowsL_at (l : List Int) (i : Nat) (h : i < hiR l) : (rowsL l)[i]? = some (rowL l i) := by simp [rowsL, h]
def gk (x : List Int) : Nat → List Int → Nat
  | k, [] => k
  | k, y :: t => gk x (if x[k]? = some y then k + 1 else k) t
end Go.Proofs.YtpnjnedfcdppaaaGreatDoor

/-
  PATHS, AS LISTS. Nothing is walked here.
-/
namespace Go.Proofs.YtpnjnedfcdppaaaGreatDoor

def pas (L : List Int) (a key : Int) : List Int := L.filter fun k => decide (a < k ∧ k < key)
def lastD (f : List Int) (a : Int) : Int := f.getLast?.getD a
theorem lastD_snoc (f : List Int) (x a : Int) : lastD (f ++ [x]) a = x := by simp [lastD]
theorem lastD_cases (f : List Int) (a : Int) : f = [] ∧ lastD f a = a ∨ ∃ g, f = g ++ [lastD f a] := by
  rcases List.eq_nil_or_concat f with h | ⟨g, x, h⟩
  · exact .inl ⟨h, by rw [h]; rfl⟩
  · refine .inr ⟨g, ?_⟩
    rw [h, List.concat_eq_append, lastD_snoc]
theorem lastD_mem (f : List Int) (a : Int) : lastD f a = a ∨ lastD f a ∈ f := by
  rcases lastD_cases f a with ⟨_, h⟩ | ⟨g, h⟩
  · exact .inl h
  · right
    have : lastD f a ∈ g ++ [lastD f a] := by simp
    rw [← h] at this
    exact this
theorem pas_mem {L : List Int} {a key k : Int} : k ∈ pas L a key ↔ k ∈ L ∧ a < k ∧ k < key := by simp [pas, and_assoc]
theorem lastD_ge (L : List Int) (a key : Int) : a ≤ lastD (pas L a key) a := by
  rcases lastD_mem (pas L a key) a with h | h
  · omega
  · have := (pas_mem.1 h).2
    omega
theorem pas_snoc (L : List Int) (j : Nat) (hj : j < L.length) (a key : Int) : pas (L.take (j + 1)) a key = if a < L[j] ∧ L[j] < key then pas (L.take j) a key ++ [L[j]] else pas (L.take j) a key := by
  rw [List.take_succ_eq_append_getElem hj]
  unfold pas
  rw [List.filter_append]
  by_cases h : a < L[j] ∧ L[j] < key
  · simp [h]
  · rw [if_neg h]
    have : List.filter (fun k => decide (a < k ∧ k < key)) [L[j]] = [] := by
      simp only [List.filter_cons, List.filter_nil]
      rw [if_neg (by simpa using h)]
    rw [this, List.append_nil]
theorem take_lt {L : List Int} (h : L.Pairwise (· < ·)) {j : Nat} (hj : j < L.length) {k : Int} (hk : k ∈ L.take j) : k < L[j] := by
  obtain ⟨i, hi, rfl⟩ := List.mem_iff_getElem.1 hk
  rw [List.length_take] at hi
  rw [List.getElem_take]
  exact List.pairwise_iff_getElem.1 h i j (by omega) hj (by omega)
theorem pas_gt {L : List Int} (h : L.Pairwise (· < ·)) {j : Nat} (hj : j < L.length) (a key : Int) : lastD (pas (L.take j) a key) a < L[j] ↔ a < L[j] := by
  constructor
  · intro h1
    have := lastD_ge (L.take j) a key
    omega
  · intro h1
    rcases lastD_mem (pas (L.take j) a key) a with h2 | h2
    · omega
    · exact take_lt h hj (pas_mem.1 h2).1
theorem pas_stop {L : List Int} (h : L.Pairwise (· < ·)) {j : Nat} (hj : j < L.length) {a key : Int} (hk : key ≤ L[j]) : pas (L.take j) a key = pas L a key := by
  conv => rhs; rw [← List.take_append_drop j L]
  unfold pas
  rw [List.filter_append]
  have : List.filter (fun k => decide (a < k ∧ k < key)) (L.drop j) = [] := by
    rw [List.filter_eq_nil_iff]
    intro k hk2
    obtain ⟨i, hi, rfl⟩ := List.mem_iff_getElem.1 hk2
    rw [List.getElem_drop]
    have hle : L[j] ≤ L[j + i]'(by rw [List.length_drop] at hi; omega) := by
      rcases Nat.eq_zero_or_pos i with h0 | h0
      · subst h0; exact Int.le_refl _
      · exact Int.le_of_lt (List.pairwise_iff_getElem.1 h j (j + i) hj (by rw [List.length_drop] at hi; omega) (by omega))
    simp
    omega
  rw [this, List.append_nil]

def stTo (l : List Int) (key : Int) : Nat → PL × Int
  | 0 => ([], -1)
  | m + 1 => ((stTo l key m).1 ++ (pas (rowL l (11 - m)) (stTo l key m).2 key).map (fun k => ((11 : Int) - m, k)), lastD (pas (rowL l (11 - m)) (stTo l key m).2 key) (stTo l key m).2)
def stops (l : List Int) (key : Int) : PL := (stTo l key 12).1

structure Pin (l : List Int) (key : Int) (m : Nat) (p : PL) (a : Int) : Prop where
  pw : p.Pairwise fun x y => x.2 < y.2 ∧ y.1 ≤ x.1
  each : ∀ s ∈ p, s.1 = (ht s.2 : Int) - 1 ∧ s.2 ∈ l ∧ s.2 < key ∧ s.2 ≤ a ∧ (12 : Int) - m ≤ s.1
  low : -1 ≤ a
  last : p = [] ∧ a = -1 ∨ ∃ q r, p = q ++ [(r, a)]
  met : ∀ k ∈ l, k < key → 12 - m < ht k → k ≤ a
theorem stTo_pin {l : List Int} (hR : Rise l) (key : Int) : ∀ m, m ≤ 12 → Pin l key m (stTo l key m).1 (stTo l key m).2
  | 0, _ => ⟨List.Pairwise.nil, fun s h => absurd h (by simp [stTo]), by simp [stTo], .inl ⟨rfl, rfl⟩, fun k _ _ h => by have := ht_le k; omega⟩
  | m + 1, hm => by
    have ih := stTo_pin hR key m (by omega)
    show Pin l key (m + 1) ((stTo l key m).1 ++ (pas (rowL l (11 - m)) (stTo l key m).2 key).map (fun k => ((11 : Int) - m, k))) (lastD (pas (rowL l (11 - m)) (stTo l key m).2 key) (stTo l key m).2)
    generalize (stTo l key m).1 = p at ih ⊢
    generalize (stTo l key m).2 = a at ih ⊢
    obtain ⟨f, hf⟩ : ∃ f, pas (rowL l (11 - m)) a key = f := ⟨_, rfl⟩
    have hmem : ∀ k, k ∈ f → k ∈ l ∧ ht k = 12 - m ∧ a < k ∧ k < key := fun k hk => by
      rw [← hf, pas_mem] at hk
      obtain ⟨h1, h2, h3⟩ := hk
      unfold rowL at h1
      rw [List.mem_filter] at h1
      obtain ⟨h4, h5⟩ := h1
      simp at h5
      refine ⟨h4, ?_, h2, h3⟩
      rcases Nat.lt_or_ge (12 - m) (ht k) with h6 | h6
      · have := ih.met k h4 h3 h6
        omega
      · omega
    have hfp : f.Pairwise (· < ·) := by rw [← hf]; exact (rowL_pw hR.pw _).sublist List.filter_sublist
    have hge : a ≤ lastD f a := by rw [← hf]; exact lastD_ge _ _ _
    have hall : ∀ k ∈ f, k ≤ lastD f a := fun k hk => by
      rcases lastD_cases f a with ⟨h0, _⟩ | ⟨g, hg⟩
      · rw [h0] at hk; cases hk
      · obtain ⟨z, hz⟩ : ∃ z, lastD f a = z := ⟨_, rfl⟩
        rw [hz] at hg ⊢
        rw [hg, List.mem_append, List.mem_singleton] at hk
        rcases hk with hk | hk
        · rw [hg, List.pairwise_append] at hfp
          exact Int.le_of_lt (hfp.2.2 k hk z (by simp))
        · omega
    rw [hf]
    refine ⟨?_, ?_, ?_, ?_, ?_⟩
    · rw [List.pairwise_append, List.pairwise_map]
      refine ⟨ih.pw, hfp.imp fun h => ⟨h, Int.le_refl _⟩, fun x hx y hy => ?_⟩
      obtain ⟨k, hk, rfl⟩ := List.mem_map.1 hy
      have h1 := ih.each x hx
      have h2 := hmem k hk
      exact ⟨by show x.2 < k; omega, by show (11 : Int) - m ≤ x.1; omega⟩
    · intro s hs
      rcases List.mem_append.1 hs with hs | hs
      · have h1 := ih.each s hs
        exact ⟨h1.1, h1.2.1, h1.2.2.1, by omega, by omega⟩
      · obtain ⟨k, hk, rfl⟩ := List.mem_map.1 hs
        have h2 := hmem k hk
        exact ⟨by show (11 : Int) - m = (ht k : Int) - 1; omega, h2.1, h2.2.2.2, hall k hk, by show (12 : Int) - ((m + 1 : Nat) : Int) ≤ 11 - m; omega⟩
    · have := ih.low
      omega
    · rcases lastD_cases f a with ⟨h0, h1⟩ | ⟨g, hg⟩
      · rw [h1, h0]
        simpa using ih.last
      · refine .inr ⟨p ++ g.map (fun k => ((11 : Int) - m, k)), (11 : Int) - m, ?_⟩
        conv => lhs; rw [hg]
        rw [List.map_append, List.append_assoc]
        rfl
    · intro k hk h1 h2
      rcases Int.lt_or_le a k with h3 | h3
      · refine hall k ?_
        rw [← hf, pas_mem]
        refine ⟨?_, h3, h1⟩
        unfold rowL
        rw [List.mem_filter]
        exact ⟨hk, by simp; omega⟩
      · omega
theorem stops_pin {l : List Int} (hR : Rise l) (key : Int) : Pin l key 12 (stops l key) (stTo l key 12).2 := stTo_pin hR key 12 (Nat.le_refl _)
theorem pas_len (L : List Int) (a key : Int) : (pas L a key).length ≤ L.length := List.length_filter_le _ _
theorem stTo_len (l : List Int) (key : Int) (m : Nat) : (stTo l key m).1.length ≤ m * l.length := by
  induction m with
  | zero => simp [stTo]
  | succ m ih =>
    show ((stTo l key m).1 ++ _).length ≤ _
    rw [List.length_append, List.length_map, Nat.succ_mul]
    have h1 := pas_len (rowL l (11 - m)) (stTo l key m).2 key
    have h2 := rowL_len l (11 - m)
    omega

end Go.Proofs.YtpnjnedfcdppaaaGreatDoor

/-
  ZIPPED TREES AND ROWS: who stands above a place to the left is a stop on the way to it: plain mathematics. Nothing of the program but a key's height.
-/
namespace Go.Proofs.YtpnjnedfcdppaaaGreatDoor

def zpl (ks : List Int) : PL := ks.map fun k => (k, (ht k : Int))
theorem zpl_length (ks : List Int) : (zpl ks).length = ks.length := by simp [zpl]
theorem zpl_dp (ks : List Int) (i : Nat) (h : i < ks.length) : dp (zpl ks) i = (ht ks[i] : Int) := by
  rw [dp_in (by rw [zpl_length]; exact h)]
  simp [zpl]

inductive Chn (S : PL) (p : Nat) : Int → List Nat → Prop
  | top : Chn S p (-1) []
  | step {i : Nat} {L : List Nat} : Chn S p (par S i) L → Chn S p i (if i < p then i :: L else L)
end Go.Proofs.YtpnjnedfcdppaaaGreatDoor

/-
  BITS, ONE BY ONE. Nothing is walked here.
-/
namespace Go.Proofs.YtpnjnedfcdppaaaGreatDoor

def bitN (x n : Nat) : Nat := x / 2 ^ n % 2
theorem bitN_lt (x n : Nat) : bitN x n < 2 := Nat.mod_lt _ (by decide)
theorem bitN_high (x n : Nat) (hx : x < 18446744073709551616) (hn : 64 ≤ n) : bitN x n = 0 := by
  have : x < 2 ^ n := Nat.lt_of_lt_of_le hx (by have := Nat.pow_le_pow_right (n := 2) (by decide) hn; simpa using this)
  unfold bitN
  rw [Nat.div_eq_of_lt this]
theorem bitN_test (x n : Nat) : x.testBit n = decide (bitN x n = 1) := by
  unfold bitN
  rw [Nat.testBit_eq_decide_div_mod_eq]
theorem half_step (y k : Nat) : y / 2 ^ k = 2 * (y / 2 ^ (k + 1)) + bitN y k := by
  unfold bitN
  have h : y / 2 ^ (k + 1) = y / 2 ^ k / 2 := by rw [Nat.pow_succ, Nat.div_div_eq_div_mul]
  rw [h]
  omega
def exch (x n : Nat) : Nat := x ^^^ x / 2 ^ n
theorem exch_lt (x n : Nat) (hx : x < 18446744073709551616) : exch x n < 18446744073709551616 :=
  Nat.xor_lt_two_pow (n := 64) hx (Nat.lt_of_le_of_lt (Nat.div_le_self _ _) hx)
theorem exch_bit (x n k : Nat) : bitN (exch x n) k = (bitN x k + bitN x (k + n)) % 2 := by
  have h : (exch x n).testBit k = (x.testBit k ^^ x.testBit (k + n)) := by
    unfold exch
    rw [Nat.testBit_xor, ← Nat.shiftRight_eq_div_pow, Nat.testBit_shiftRight, Nat.add_comm n k]
  rw [bitN_test, bitN_test, bitN_test] at h
  have h1 := bitN_lt (exch x n) k
  have h2 := bitN_lt x k
  have h3 := bitN_lt x (k + n)
  rcases (show bitN x k = 0 ∨ bitN x k = 1 by omega) with e1 | e1 <;> rcases (show bitN x (k + n) = 0 ∨ bitN x (k + n) = 1 by omega) with e2 | e2 <;> (rw [e1, e2] at h ⊢; simp at h; omega)
theorem exch_step (x n k : Nat) : 2 * (exch x n / 2 ^ (k + 1)) + (bitN x k + bitN x (k + n)) % 2 = exch x n / 2 ^ k := by
  rw [← exch_bit]
  exact (half_step _ _).symm
theorem exch_top (x n : Nat) (hx : x < 18446744073709551616) : exch x n / 2 ^ 64 = 0 := Nat.div_eq_of_lt (exch_lt x n hx)
theorem times_step (a b k : Nat) : ((a * (b / 2 ^ (k + 1)) % 18446744073709551616 + a * (b / 2 ^ (k + 1)) % 18446744073709551616) % 18446744073709551616 + (if bitN b k = 1 then a else 0)) % 18446744073709551616 = a * (b / 2 ^ k) % 18446744073709551616 := by
  rw [half_step b k]
  have h := bitN_lt b k
  generalize b / 2 ^ (k + 1) = c
  rcases (show bitN b k = 0 ∨ bitN b k = 1 by omega) with e | e
  · rw [e, if_neg (by decide), Nat.add_zero, Nat.add_zero, show a * (2 * c) = 2 * (a * c) by rw [Nat.mul_left_comm]]
    generalize a * c = q
    omega
  · rw [e, if_pos rfl, Nat.mul_add, Nat.mul_one, show a * (2 * c) = 2 * (a * c) by rw [Nat.mul_left_comm]]
    generalize a * c = q
    omega
theorem times_top (a b : Nat) (hb : b < 18446744073709551616) : a * (b / 2 ^ 64) % 18446744073709551616 = 0 := by
  rw [Nat.div_eq_of_lt hb]
  simp

theorem ctz_bits (x : Nat) (hx : x < 18446744073709551616) : (∀ i, i < Lib.ctz 64 x → bitN x i = 0) ∧ (Lib.ctz 64 x < 64 → bitN x (Lib.ctz 64 x) = 1) := by
  by_cases h0 : x = 0
  · subst h0
    refine ⟨fun i _ => by simp [bitN], fun h => absurd h (by decide)⟩
  · obtain ⟨m, hm, hlt⟩ := Lib.ctzFrom_spec 64 x (by omega) hx
    have hc : Lib.ctz 64 x = Lib.ctzFrom 64 x := by unfold Lib.ctz; rw [if_neg h0]
    rw [hc]
    generalize Lib.ctzFrom 64 x = c at hm hlt
    subst hm
    refine ⟨fun i hi => ?_, fun _ => ?_⟩
    · unfold bitN
      have e : 2 ^ c * (2 * m + 1) = 2 ^ i * (2 * (2 ^ (c - i - 1) * (2 * m + 1))) := by
        have : 2 ^ c = 2 ^ i * (2 * 2 ^ (c - i - 1)) := by
          rw [← Nat.pow_succ', ← Nat.pow_add]
          congr 1
          omega
        rw [this]
        simp only [Nat.mul_assoc]
      rw [e, Nat.mul_div_cancel_left _ (Nat.two_pow_pos i)]
      omega
    · unfold bitN
      rw [Nat.mul_div_cancel_left _ (Nat.two_pow_pos c)]
      omega
theorem ht_is (key : Int) {h : Nat} (h1 : 1 ≤ h) (h12 : h ≤ 12) (hz : ∀ i, i < h - 1 → bitN (mixR key) i = 0) (he : h = 12 ∨ bitN (mixR key) (h - 1) = 1) : ht key = h := by
  obtain ⟨hb0, hb1⟩ := ctz_bits (mixR key) (mixR_lt key)
  unfold ht
  rcases Nat.lt_trichotomy (Lib.ctz 64 (mixR key)) (h - 1) with hc | hc | hc
  · have e1 := hb1 (by omega)
    have e2 := hz _ hc
    omega
  · omega
  · rcases he with he | he
    · omega
    · have := hb0 (h - 1) hc
      omega
theorem mixR_eq (key : Int) : mixR key = exch (exch (exch (key % 18446744073709551616).toNat 30 * 13787848793156543929 % 18446744073709551616) 27 * 10723151780598845931 % 18446744073709551616) 31 := rfl
end Go.Proofs.YtpnjnedfcdppaaaGreatDoor

/-
  hedgref: bit, exchanged, timesTwo, HeightOf.
-/
namespace Go.Proofs.YtpnjnedfcdppaaaGreatDoor
open Go.RowKit

theorem bit_int (x n : Nat) : ((x : Int) / 2 ^ n).tmod 2 = (bitN x n : Int) := by
  have h : (x : Int) / 2 ^ n = ((x / 2 ^ n : Nat) : Int) := by simp
  rw [h]
  rfl
set_option maxHeartbeats 1000000 in
theorem bit_any (x n : Nat) (hx : x < 18446744073709551616) (hn : n ≤ 200) (w : World) :
    Calls Tryz.prog 215 #[.int .u64 x, I n] w fun e w' => e = .returned (.int .u64 (bitN x n)) ∧ w' = w := by
  by_cases h63 : 63 < n
  · have HF := Lib.hid (bitN_high x n hx (by omega))
    go_enter Tryz.func215, Tryz.ntmps215
    go_wp2
    go_ret
    exact ⟨ret_int (by rw [HF.out]; rfl), rfl⟩
  · go_enter Tryz.func215, Tryz.ntmps215
    go_wp2
    go_ret
    exact ⟨ret_int (bit_int x n), rfl⟩
theorem bit_is (x n b : Nat) (hx : x < 18446744073709551616) (hn : n ≤ 200) (hb : bitN x n = b) (w : World) :
    Calls Tryz.prog 215 #[.int .u64 x, I n] w fun e w' => e = .returned (.int .u64 b) ∧ w' = w := hb ▸ bit_any x n hx hn w

set_option maxRecDepth 100000 in
set_option maxHeartbeats 1000000 in
theorem exchanged_any (x n : Nat) (hx : x < 18446744073709551616) (hn : n ≤ 64) (w : World) :
    Calls Tryz.prog 214 #[.int .u64 x, I n] w fun e w' => e = .returned (.int .u64 (exch x n)) ∧ w' = w := by
  have HE := Lib.hid (exch_lt x n hx)
  have HT := Lib.hid (exch_top x n hx)
  go_enter Tryz.func214, Tryz.ntmps214
  go_wp2
  go_loop [5, 6] (fun o k => ∃ m : Nat, m ≤ 64 ∧ k = .int .i64 (63 - (m : Int)) ∧ o = .int .u64 ((exch x n / 2 ^ (64 - m) : Nat) : Int)) (fun _ k => (intOf k + 1).toNat)
  case atStart => exact ⟨0, by omega, rfl, by rw [HT.out]; rfl⟩
  case round =>
    obtain ⟨m, hm, rfl, rfl⟩ := hrel
    by_cases hlt : m < 64
    · obtain ⟨k, hk⟩ : ∃ k : Nat, 63 - m = k := ⟨_, rfl⟩
      have hki : (63 : Int) - (m : Int) = (k : Int) := by omega
      have hk1 : 64 - m = k + 1 := by omega
      have hk63 : k ≤ 63 := by omega
      rw [hki, hk1]
      obtain ⟨o, ho⟩ : ∃ o, exch x n / 2 ^ (k + 1) = o := ⟨_, rfl⟩
      have hol : o < 9223372036854775808 := by
        have h1 := half_step (exch x n) 0
        have h2 : o ≤ exch x n / 2 ^ 1 := by rw [← ho]; exact Nat.div_le_div_left (Nat.pow_le_pow_right (by decide) (by omega)) (by decide)
        have := HE.out
        omega
      obtain ⟨b1, hb1⟩ : ∃ b, bitN x k = b := ⟨_, rfl⟩
      obtain ⟨b2, hb2⟩ : ∃ b, bitN x (k + n) = b := ⟨_, rfl⟩
      have hl1 : b1 < 2 := by rw [← hb1]; exact bitN_lt _ _
      have hl2 : b2 < 2 := by rw [← hb2]; exact bitN_lt _ _
      have hst := exch_step x n k
      rw [ho, hb1, hb2] at hst
      have HST : Hid (exch x n / 2 ^ (64 - (m + 1)) = 2 * o + (b1 + b2) % 2) := by show _ = _; rw [hst, show 64 - (m + 1) = k by omega]
      rw [ho]
      have HC1 := Lib.hid (bit_is x k b1 hx (by omega) hb1 w)
      have HC2 : Hid (Calls Tryz.prog 215 #[.int .u64 x, I ((k : Int) + (n : Int))] w fun e w' => e = .returned (.int .u64 b2) ∧ w' = w) := by
        have := bit_is x (k + n) b2 hx (by omega) hb2 w
        rwa [Int.natCast_add] at this
      have HKI := Lib.hid hki
      clear hst ho hb1 hb2 hki hk hk1
      go_wp2_with fail
      refine HC1.out.mono ?_
      rintro e w' ⟨rfl, rfl⟩
      go_wp2_with fail
      refine HC2.out.mono ?_
      rintro e w' ⟨rfl, rfl⟩
      clear HC1 HC2
      rcases (show b1 = 0 ∨ b1 = 1 by omega) with rfl | rfl <;> rcases (show b2 = 0 ∨ b2 = 1 by omega) with rfl | rfl
      all_goals
        go_wp2
        go_round
        case rel => exact ⟨m + 1, by omega, by congr 1; have := HKI.out; omega, by congr 1; rw [HST.out]; omega⟩
        case measure => first | (simp [intOf]; done) | (simp [intOf]; omega)
    · obtain rfl : m = 64 := by omega
      go_wp2
      go_ret
      exact ⟨by simp, rfl⟩

set_option maxRecDepth 100000 in
set_option maxHeartbeats 1000000 in
theorem times_any (a b : Nat) (ha : a < 18446744073709551616) (hb : b < 18446744073709551616) (w : World) :
    Calls Tryz.prog 213 #[.int .u64 a, .int .u64 b] w fun e w' => e = .returned (.int .u64 ((a * b % 18446744073709551616 : Nat) : Int)) ∧ w' = w := by
  have HT := Lib.hid (times_top a b hb)
  go_enter Tryz.func213, Tryz.ntmps213
  go_wp2
  go_loop [5, 6] (fun o k => ∃ m : Nat, m ≤ 64 ∧ k = .int .i64 (63 - (m : Int)) ∧ o = .int .u64 ((a * (b / 2 ^ (64 - m)) % 18446744073709551616 : Nat) : Int)) (fun _ k => (intOf k + 1).toNat)
  case atStart => exact ⟨0, by omega, rfl, by rw [HT.out]; rfl⟩
  case round =>
    obtain ⟨m, hm, rfl, rfl⟩ := hrel
    by_cases hlt : m < 64
    · obtain ⟨k, hk⟩ : ∃ k : Nat, 63 - m = k := ⟨_, rfl⟩
      have hki : (63 : Int) - (m : Int) = (k : Int) := by omega
      have hk1 : 64 - m = k + 1 := by omega
      have hk63 : k ≤ 63 := by omega
      rw [hki, hk1]
      have hst := times_step a b k
      obtain ⟨o, ho⟩ : ∃ o, a * (b / 2 ^ (k + 1)) % 18446744073709551616 = o := ⟨_, rfl⟩
      have hol : o < 18446744073709551616 := by rw [← ho]; exact Nat.mod_lt _ (by decide)
      obtain ⟨b1, hb1⟩ : ∃ b', bitN b k = b' := ⟨_, rfl⟩
      have hl1 : b1 < 2 := by rw [← hb1]; exact bitN_lt _ _
      rw [ho, hb1, show k = 64 - (m + 1) by omega] at hst
      rw [ho]
      have HST := Lib.hid hst
      have HC1 := Lib.hid (bit_is b k b1 hb (by omega) hb1 w)
      have HKI := Lib.hid hki
      clear hst ho hb1 hki hk hk1
      go_wp2_with fail
      refine HC1.out.mono ?_
      rintro e w' ⟨rfl, rfl⟩
      clear HC1
      rcases (show b1 = 0 ∨ b1 = 1 by omega) with rfl | rfl
      all_goals
        go_wp2
        go_round
        case rel =>
          refine ⟨m + 1, by omega, by congr 1; have := HKI.out; omega, ?_⟩
          congr 1
          have := HST.out
          first | rw [if_pos rfl] at this | rw [if_pos trivial] at this | rw [if_neg (by decide)] at this
          simp only [IntKind.wrap_u64]
          omega
        case measure => first | (simp [intOf]; done) | (simp [intOf]; omega)
    · obtain rfl : m = 64 := by omega
      go_wp2
      go_ret
      exact ⟨by simp, rfl⟩

set_option maxRecDepth 100000 in
set_option maxHeartbeats 1000000 in
theorem HeightOf_any (key : Int) (w : World) :
    Calls Tryz.prog 172 #[I key] w fun e w' => e = .returned (I (ht key)) ∧ w' = w := by
  obtain ⟨x, hx⟩ : ∃ x, (key % 18446744073709551616).toNat = x := ⟨_, rfl⟩
  have hxl : x < 18446744073709551616 := by omega
  have hw : IntKind.u64.wrap key = (x : Int) := by rw [IntKind.wrap_u64]; omega
  have hmix := mixR_eq key
  rw [hx] at hmix
  obtain ⟨y1, hy1⟩ : ∃ y, exch x 30 = y := ⟨_, rfl⟩
  have hy1l : y1 < 18446744073709551616 := by rw [← hy1]; exact exch_lt x 30 hxl
  obtain ⟨y2, hy2⟩ : ∃ y, y1 * 13787848793156543929 % 18446744073709551616 = y := ⟨_, rfl⟩
  have hy2l : y2 < 18446744073709551616 := by rw [← hy2]; exact Nat.mod_lt _ (by decide)
  obtain ⟨y3, hy3⟩ : ∃ y, exch y2 27 = y := ⟨_, rfl⟩
  have hy3l : y3 < 18446744073709551616 := by rw [← hy3]; exact exch_lt y2 27 hy2l
  obtain ⟨y4, hy4⟩ : ∃ y, y3 * 10723151780598845931 % 18446744073709551616 = y := ⟨_, rfl⟩
  have hy4l : y4 < 18446744073709551616 := by rw [← hy4]; exact Nat.mod_lt _ (by decide)
  obtain ⟨y5, hy5⟩ : ∃ y, exch y4 31 = y := ⟨_, rfl⟩
  have hy5l : y5 < 18446744073709551616 := by rw [← hy5]; exact exch_lt y4 31 hy4l
  rw [hy1, hy2, hy3, hy4, hy5] at hmix
  have C1 : Hid (∀ w, Calls Tryz.prog 214 #[.int .u64 x, I 30] w fun e w' => e = .returned (.int .u64 y1) ∧ w' = w) := fun w => hy1 ▸ exchanged_any x 30 hxl (by decide) w
  have C2 : Hid (∀ w, Calls Tryz.prog 213 #[.int .u64 y1, .int .u64 13787848793156543929] w fun e w' => e = .returned (.int .u64 y2) ∧ w' = w) := fun w => hy2 ▸ times_any y1 13787848793156543929 hy1l (by decide) w
  have C3 : Hid (∀ w, Calls Tryz.prog 214 #[.int .u64 y2, I 27] w fun e w' => e = .returned (.int .u64 y3) ∧ w' = w) := fun w => hy3 ▸ exchanged_any y2 27 hy2l (by decide) w
  have C4 : Hid (∀ w, Calls Tryz.prog 213 #[.int .u64 y3, .int .u64 10723151780598845931] w fun e w' => e = .returned (.int .u64 y4) ∧ w' = w) := fun w => hy4 ▸ times_any y3 10723151780598845931 hy3l (by decide) w
  have C5 : Hid (∀ w, Calls Tryz.prog 214 #[.int .u64 y4, I 31] w fun e w' => e = .returned (.int .u64 y5) ∧ w' = w) := fun w => hy5 ▸ exchanged_any y4 31 hy4l (by decide) w
  have HM := Lib.hid hmix
  have HW := Lib.hid hw
  clear hx hw hmix hy1 hy2 hy3 hy4 hy5
  go_enter Tryz.func172, Tryz.ntmps172
  go_wp2_with (first | simp only [HW.out] | fail)
  refine (C1.out w).mono ?_
  rintro e w' ⟨rfl, rfl⟩
  go_wp2_with fail
  refine (C2.out _).mono ?_
  rintro e w' ⟨rfl, rfl⟩
  go_wp2_with fail
  refine (C3.out _).mono ?_
  rintro e w' ⟨rfl, rfl⟩
  go_wp2_with fail
  refine (C4.out _).mono ?_
  rintro e w' ⟨rfl, rfl⟩
  go_wp2_with fail
  refine (C5.out _).mono ?_
  rintro e w' ⟨rfl, rfl⟩
  clear C1 C2 C3 C4 C5
  go_wp2
  go_loop [4] (fun h => ∃ k : Nat, 1 ≤ k ∧ k ≤ 12 ∧ h = .int .i64 k ∧ ∀ i, i < k - 1 → bitN y5 i = 0) (fun h => 12 - (intOf h).toNat)
  case atStart => exact ⟨1, by omega, by omega, rfl, fun i hi => absurd hi (by omega)⟩
  case round =>
    obtain ⟨k, hk1, hk12, rfl, hz⟩ := hrel
    by_cases hlt : k < 12
    · obtain ⟨j, rfl⟩ : ∃ j, k = j + 1 := ⟨k - 1, by omega⟩
      have HZ := Lib.hid hz
      obtain ⟨b, hb⟩ : ∃ b, bitN y5 j = b := ⟨_, rfl⟩
      have hbl : b < 2 := by rw [← hb]; exact bitN_lt _ _
      have HC := fun w => Lib.hid (bit_is y5 j b hy5l (by omega) hb w)
      have HBJ := Lib.hid hb
      clear hz hb
      go_wp2_with fail
      refine (HC _).out.mono ?_
      rintro e w' ⟨rfl, rfl⟩
      rcases (show b = 0 ∨ b = 1 by omega) with rfl | rfl
      · go_wp2
        go_round
        case rel =>
          refine ⟨j + 1 + 1, by omega, by omega, by go_num, fun i hi => ?_⟩
          rcases Nat.lt_or_ge i j with h1 | h1
          · exact HZ.out i (by omega)
          · obtain rfl : i = j := by omega
            exact HBJ.out
        case measure => simp [intOf]; omega
      · have HF : Hid (ht key = j + 1) := ht_is key (by omega) (by omega) (fun i hi => by rw [HM.out]; exact HZ.out i hi) (.inr (by rw [HM.out]; exact HBJ.out))
        go_wp2
        go_ret
        exact ⟨ret_int (by rw [HF.out]; rfl), rfl⟩
    · obtain rfl : k = 12 := by omega
      have HF : Hid (ht key = 12) := ht_is key (by omega) (by omega) (fun i hi => by rw [HM.out]; exact hz i hi) (.inl rfl)
      clear hz
      go_wp2
      go_ret
      exact ⟨ret_int (by rw [HF.out]; rfl), rfl⟩
end Go.Proofs.YtpnjnedfcdppaaaGreatDoor
