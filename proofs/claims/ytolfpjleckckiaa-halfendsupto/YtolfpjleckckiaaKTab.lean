/-
  HEIGHTS: math/bits.TrailingZeros64 over its table, skip.Height.
-/
import Derived.Test.YtolfpjleckckiaaChecked
import Derived.Test.YtolfpjleckckiaaWords
import Derived.Lib.TrailingZeros
import Derived.Laws.Bits64
import Derived.Laws.Bits64b
namespace Go.Proofs.Ytolfpjleckckiaa
open Go.RowKit

/-- the table in its variable -/
def Tb (w : World) : Prop := ∀ j, j < 64 → w.cell? ⟨0, j, none⟩ = some (.int .u8 (Lib.deBruijn64tab.getD j 0))
theorem Tb.lt {w : World} (h : Tb w) : 0 < w.heap.size := by
  have h0 := h 0 (by decide)
  rcases Nat.lt_or_ge 0 w.heap.size with hlt | hge
  · exact hlt
  · unfold World.cell? at h0; rw [Array.getElem?_eq_none (by exact hge)] at h0; cases h0
theorem Tb.below {w w' : World} {B : Nat} (h : Tb w) (hb : Below B w w') (hB : 0 < B) : Tb w' := fun j hj => (hb.cell (by exact hB)).trans (h j hj)
theorem Tb.next {w w' : World} (h : Tb w) (hb : Below w.heap.size w w') : Tb w' := h.below hb h.lt

theorem low_key (x a : Nat) (hx : x < 18446744073709551616) (hx0 : x ≠ 0) (hlow : x &&& (18446744073709551616 - x) = a) :
    IntKind.u64.wrap (bits BinOp.and IntKind.u64 (x : Int) (IntKind.u64.wrap (-(x : Int))) * 285870213051353865) / 288230376151711744 = ((a * 285870213051353865 % 18446744073709551616 / 288230376151711744 : Nat) : Int) := by
  have e1 : IntKind.u64.wrap (-(x : Int)) = ((18446744073709551616 - x : Nat) : Int) := by rw [IntKind.wrap_u64]; omega
  rw [e1, bits_and_u64_nat x _ hx (by omega), hlow, IntKind.wrap_u64]
  omega

/-- the number's bits, mixed -/
def mix1 (x : Nat) : Nat := (x ^^^ x / 1073741824) * 13787848793156543929 % 18446744073709551616
def mix2 (x : Nat) : Nat := (x ^^^ x / 134217728) * 10723151780598845931 % 18446744073709551616
def mix3 (x : Nat) : Nat := x ^^^ x / 2147483648
def mixR (key : Int) : Nat := mix3 (mix2 (mix1 (key % 18446744073709551616).toNat))
/-- the height of a key -/
def ht (key : Int) : Nat := min (Lib.ctz 64 (mixR key) + 1) 12
theorem mix1_lt (x : Nat) : mix1 x < 18446744073709551616 := Nat.mod_lt _ (by decide)
theorem mix2_lt (x : Nat) : mix2 x < 18446744073709551616 := Nat.mod_lt _ (by decide)
theorem mix3_lt (x : Nat) (h : x < 18446744073709551616) : mix3 x < 18446744073709551616 :=
  Nat.xor_lt_two_pow (n := 64) h (by omega)
theorem ctz_le (x : Nat) (h : x < 18446744073709551616) : Lib.ctz 64 x ≤ 64 := by
  by_cases h0 : x = 0
  · subst h0; decide
  · have := (Lib.lowest_bit 64 x h0 h).2
    omega
theorem mixR_lt (key : Int) : mixR key < 18446744073709551616 := mix3_lt _ (mix2_lt _)
theorem ht_pos (key : Int) : 1 ≤ ht key := by unfold ht; omega
theorem ht_le (key : Int) : ht key ≤ 12 := by unfold ht; omega

theorem x3 (X : Nat) (hX : X < 18446744073709551616) : bits .xor .u64 (X : Int) ((X : Int) / 2147483648) = ((mix3 X : Nat) : Int) := xorShift_u64 X 2147483648 hX
theorem x1 (X : Nat) (hX : X < 18446744073709551616) : IntKind.u64.wrap (bits .xor .u64 (X : Int) ((X : Int) / 1073741824) * 13787848793156543929) = ((mix1 X : Nat) : Int) := mixStep_u64 X 1073741824 13787848793156543929 hX
theorem x2 (X : Nat) (hX : X < 18446744073709551616) : IntKind.u64.wrap (bits .xor .u64 (X : Int) ((X : Int) / 134217728) * 10723151780598845931) = ((mix2 X : Nat) : Int) := mixStep_u64 X 134217728 10723151780598845931 hX
theorem x0 (key : Int) : IntKind.u64.wrap key = (((key % 18446744073709551616).toNat : Nat) : Int) := by rw [IntKind.wrap_u64]; omega

theorem min_ht (c : Nat) : min ((c : Int) + 1) 12 = ((min (c + 1) 12 : Nat) : Int) := by omega

end Go.Proofs.Ytolfpjleckckiaa
