/-
  Joined texts: YtpnjnedfcdppaaaGreatDoorDPure, YtpnjnedfcdppaaaGreatDoorDSpl, YtpnjnedfcdppaaaGreatDoorKTab, YtpnjnedfcdppaaaGreatDoorEqInt, YtpnjnedfcdppaaaGreatDoorInts.
-/
import Derived.Lib.FieldsP
import Derived.Lib.SpaceUEq
import Derived.Lib.Split
import Derived.Lib.IndexMore
import Derived.Lib.ItoaNum
import Derived.Lib.Join
import Derived.Lib.Replace
import Derived.Test.YtpnjnedfcdppaaaGreatDoorChecked
import Derived.Test.YtpnjnedfcdppaaaGreatDoorSPureAll
import Derived.Lib.TrailingZeros
import Derived.Laws.Bits64
import Derived.Laws.Bits64b
import Derived.BigQuiet
import Derived.Deep.QuietTactic
import Derived.Maps.AppendAt
import Derived.OwnWalk
/-
  The desk's words, plain: what blanks and tabs part, by bytes; and that Go's own pass over the runes parts them so. No program.
-/
namespace Go.Proofs.YtpnjnedfcdppaaaGreatDoor
open Go.Lib

/-- is it a blank or a tab -/
def blk (b : UInt8) : Bool := b == 32 || b == 9
def blkN (x : Nat) : Bool := x == 32 || x == 9
theorem blk_N (b : UInt8) : blk b = blkN b.toNat := by
  unfold blk blkN
  have h1 : (b == 32) = (b.toNat == 32) := by rw [Bool.eq_iff_iff]; simp [← UInt8.toNat_inj]
  have h2 : (b == 9) = (b.toNat == 9) := by rw [Bool.eq_iff_iff]; simp [← UInt8.toNat_inj]
  rw [h1, h2]
/-- the words: cur is the one that is open -/
def wgo (cur : List UInt8) : List UInt8 → List (List UInt8)
  | [] => if cur = [] then [] else [cur]
  | b :: t => if blk b then (if cur = [] then wgo [] t else cur :: wgo [] t) else wgo (cur ++ [b]) t
/-- the words of a line -/
def wds (l : List UInt8) : List (List UInt8) := wgo [] l
theorem wgo_skip : ∀ (k : Nat) (cur l : List UInt8), k ≤ l.length → (∀ j, j < k → blk (l.getD j 0) = false) → wgo cur l = wgo (cur ++ l.take k) (l.drop k)
  | 0, cur, l, _, _ => by simp
  | k + 1, cur, [], h, _ => by simp at h
  | k + 1, cur, b :: t, h, hz => by
    have h0 : blk b = false := hz 0 (by omega)
    rw [wgo, h0]
    rw [if_neg (by simp), wgo_skip k (cur ++ [b]) t (by simp at h; omega) (fun j hj => by have := hz (j + 1) (by omega); simpa using this)]
    simp
/-- a rune that is a blank is one byte; one that isn't has no blank among its bytes -/
theorem rune_blk (l : List UInt8) (hne : l ≠ []) : (blkN (decodeL l).1 = true → (decodeL l).2 = 1 ∧ blk (l.getD 0 0) = true) ∧ (blkN (decodeL l).1 = false → ∀ j, j < (decodeL l).2 → blk (l.getD j 0) = false) := by
  rw [decodeL_N]
  obtain ⟨c1, c2, c3, c4⟩ := decodeN_conts l.length (l.getD 0 0).toNat (l.getD 1 0).toNat (l.getD 2 0).toNat (l.getD 3 0).toNat
  have hc := decodeN_cases l.length (l.getD 0 0).toNat (l.getD 1 0).toNat (l.getD 2 0).toNat (l.getD 3 0).toNat
  obtain ⟨R, hR⟩ : ∃ R, decodeN l.length (l.getD 0 0).toNat (l.getD 1 0).toNat (l.getD 2 0).toNat (l.getD 3 0).toNat = R := ⟨_, rfl⟩
  rw [hR] at c1 c2 c3 c4 hc ⊢
  obtain ⟨r, m⟩ := R
  simp only [Prod.mk.injEq] at c1 c2 c3 c4 hc ⊢
  have hbn : ∀ x : Nat, blkN x = true ↔ x = 32 ∨ x = 9 := fun x => by unfold blkN; simp
  have hbf : ∀ x : Nat, blkN x = false ↔ ¬ (x = 32 ∨ x = 9) := fun x => by rw [← hbn, Bool.not_eq_true]
  simp only [blk_N]
  refine ⟨fun h => ?_, fun h j hj => ?_⟩
  · rw [hbn] at h ⊢
    omega
  · rw [hbf] at h ⊢
    have hj4 : j = 0 ∨ j = 1 ∨ j = 2 ∨ j = 3 := by omega
    rcases hj4 with rfl | rfl | rfl | rfl
    · rcases hc with ⟨_, h1, _⟩ | h1 | h1 | h1 | h1
      · omega
      all_goals (by_cases h0 : (l.getD 0 0).toNat < 128
                 · have := congrArg (fun q : Nat × Nat => q.1) hR
                   simp only [decodeN, h0, if_true] at this
                   omega
                 · omega)
    · have := (c1 (by omega)).1; omega
    · have := (c2 (by omega)).1; omega
    · have := (c3 (by omega)).1; omega
theorem spansB_eq (s : ByteArray) : ∀ (f pos : Nat) (st : Option Nat) (acc : List (Nat × Nat)), s.size ≤ pos + f → pos ≤ s.size → (∀ a, st = some a → a < pos) →
    acc.map (fun p => pieceU s.data.toList p.1 p.2) ++ wgo (openPiece s.data.toList st pos) (s.data.toList.drop pos) = (closeSpans s (spansFromP blkN s f pos st acc)).map (fun p => pieceU s.data.toList p.1 p.2) := by
  intro f
  induction f with
  | zero =>
    intro pos st acc h hp hst
    obtain rfl : pos = s.size := by omega
    rw [List.drop_eq_nil_of_le (by rw [← size_eq]; exact Nat.le_refl _)]
    cases st with
    | none => simp [spansFromP, closeSpans, openPiece, wgo]
    | some a =>
      have := pieceU_ne s.data.toList a s.size (hst a rfl) (by rw [← size_eq]; exact Nat.le_refl _)
      simp [spansFromP, closeSpans, openPiece, wgo, this]
  | succ f ihf =>
    intro pos st acc h hp hst
    by_cases hlt : pos < s.size
    · have hlen : (s.data.toList.drop pos).length = s.size - pos := by rw [List.length_drop, ← size_eq]
      have hne : s.data.toList.drop pos ≠ [] := by
        intro h0
        rw [h0] at hlen
        simp at hlen
        omega
      have hw := width_pos s pos
      have hwn : pos + (Utf8.decode s pos).2 ≤ s.size := by
        have := decodeN_le_n' (s.size - pos) (s.get! pos).toNat (s.get! (pos + 1)).toNat (s.get! (pos + 2)).toNat (s.get! (pos + 3)).toNat (by omega)
        rw [← decode_at] at this
        omega
      obtain ⟨r1, r2⟩ := rune_blk _ hne
      rw [decodeL_drop] at r1 r2
      simp only [spansFromP, if_pos hlt]
      cases hsp : blkN (Utf8.decode s pos).1 with
      | true =>
        obtain ⟨e1, e2⟩ := r1 hsp
        simp only [if_true]
        have hd : s.data.toList.drop pos = (s.data.toList.drop pos).getD 0 0 :: s.data.toList.drop (pos + 1) := by
          cases hq : s.data.toList.drop pos with
          | nil => exact absurd hq hne
          | cons b t =>
            have : s.data.toList.drop (pos + 1) = t := by rw [← List.drop_drop, hq]; rfl
            rw [this]
            rfl
        rw [hd, wgo, e2, if_pos rfl, e1]
        cases st with
        | none =>
          have ih := ihf (pos + 1) none acc (by omega) (by omega) (fun a h => by cases h)
          simpa [openPiece] using ih
        | some a =>
          have hpn := pieceU_ne s.data.toList a pos (hst a rfl) (by rw [← size_eq]; omega)
          have ih := ihf (pos + 1) none (acc ++ [(a, pos)]) (by omega) (by omega) (fun a h => by cases h)
          simpa [openPiece, hpn] using ih
      | false =>
        simp only [Bool.false_eq_true, if_false]
        rw [wgo_skip (Utf8.decode s pos).2 _ _ (by rw [hlen]; omega) (r2 hsp), List.drop_drop]
        cases st with
        | none =>
          have ih := ihf (pos + (Utf8.decode s pos).2) (some pos) acc (by omega) hwn (fun a h => by cases h; omega)
          have e : ([] : List UInt8) ++ (s.data.toList.drop pos).take (Utf8.decode s pos).2 = pieceU s.data.toList pos (pos + (Utf8.decode s pos).2) := by
            unfold pieceU
            rw [List.nil_append, Nat.add_sub_cancel_left]
          simp only [openPiece] at ih ⊢
          rw [e]
          exact ih
        | some a =>
          have ih := ihf (pos + (Utf8.decode s pos).2) (some a) acc (by omega) hwn (fun b h => by cases h; have := hst a rfl; omega)
          simp only [openPiece] at ih ⊢
          rw [pieceU_grow _ _ _ _ (Nat.le_of_lt (hst a rfl))]
          exact ih
    · obtain rfl : pos = s.size := by omega
      rw [List.drop_eq_nil_of_le (by rw [← size_eq]; exact Nat.le_refl _), spansFromP_end _ s _ _ _ _ hlt]
      cases st with
      | none => simp [closeSpans, openPiece, wgo]
      | some a =>
        have := pieceU_ne s.data.toList a s.size (hst a rfl) (by rw [← size_eq]; exact Nat.le_refl _)
        simp [closeSpans, openPiece, wgo, this]
theorem extract_piece (s : ByteArray) (a b : Nat) : (s.extract a b).data.toList = pieceU s.data.toList a b := by
  unfold pieceU
  rw [ByteArray.data_extract, Array.toList_extract]
/-- strings.FieldsFunc at blanks and tabs -/
theorem fields_wds (s : ByteArray) : (goFieldsP blkN s).map (·.data.toList) = wds s.data.toList := by
  have h := spansB_eq s s.size 0 none [] (by omega) (by omega) (fun a h => by cases h)
  unfold goFieldsP spansOfP
  rw [List.map_map]
  have e : ((fun x : ByteArray => x.data.toList) ∘ fun x : Nat × Nat => s.extract x.1 x.2) = fun p => pieceU s.data.toList p.1 p.2 := by
    funext p
    exact extract_piece s p.1 p.2
  rw [e, ← h]
  simp [openPiece, wds]

/-- what a byte parts -/
def spl (c : UInt8) : List UInt8 → List (List UInt8)
  | [] => [[]]
  | b :: t => if b == c then [] :: spl c t else match spl c t with | [] => [[b]] | x :: r => (b :: x) :: r
theorem spl_ne (c : UInt8) : ∀ l, spl c l ≠ []
  | [] => by simp [spl]
  | b :: t => by
    unfold spl
    split
    · simp
    · split <;> simp

end Go.Proofs.YtpnjnedfcdppaaaGreatDoor

/-
  The desk's text, plain: what one byte parts (strings.Split, Cut, SplitN, ReplaceAll at one byte), digits. No program.
-/
namespace Go.Proofs.YtpnjnedfcdppaaaGreatDoor
open Go.Lib

theorem index1 (c b : UInt8) (t : List UInt8) : index (b :: t) [c] = if c = b then 0 else if index t [c] = -1 then -1 else index t [c] + 1 := by
  rw [index]
  by_cases e : c = b
  · rw [if_pos e, if_pos (by simp [List.isPrefixOf, e])]
  · rw [if_neg e, if_neg (by simp [List.isPrefixOf, e])]
    simp only [beq_iff_eq]
theorem idx_spl (c : UInt8) : ∀ l, (index l [c] = -1 ∧ spl c l = [l] ∧ l.takeWhile (· != c) = l) ∨ ∃ i : Nat, index l [c] = i ∧ i < l.length ∧ spl c l = l.take i :: spl c (l.drop (i + 1)) ∧ l.takeWhile (· != c) = l.take i
  | [] => .inl ⟨by simp [index], rfl, rfl⟩
  | b :: t => by
    rw [index1]
    by_cases e : c = b
    · subst e
      right
      refine ⟨0, by rw [if_pos rfl]; rfl, by simp, ?_, ?_⟩
      · simp [spl]
      · simp
    · have eb : (b == c) = false := by simp; exact fun h => e h.symm
      have en : (b != c) = true := by simp [bne, eb]
      rw [if_neg e, spl, eb, List.takeWhile_cons, if_pos en]
      simp only [Bool.false_eq_true, if_false]
      rcases idx_spl c t with ⟨h1, h2, h3⟩ | ⟨i, h1, h2, h3, h4⟩
      · left
        rw [if_pos h1, h2, h3]
        exact ⟨rfl, rfl, rfl⟩
      · right
        refine ⟨i + 1, ?_, by simp; exact h2, ?_, ?_⟩
        · rw [h1, if_neg (by omega)]; omega
        · rw [h3]; rfl
        · rw [h4]; rfl
theorem splitK_spl (c : UInt8) : ∀ (f : Nat) (l : List UInt8), l.length < f → splitK [c] 0 (countFrom [c] f l) l = spl c l
  | 0, l, h => absurd h (Nat.not_lt_zero _)
  | f + 1, l, h => by
    rw [countFrom]
    rcases idx_spl c l with ⟨h1, h2, _⟩ | ⟨i, h1, h2, h3, _⟩
    · rw [if_pos (by simp [h1]), h2]
      rfl
    · have e : (index l [c]).toNat = i := by omega
      rw [if_neg (by simp [h1]), Nat.add_comm 1, splitK, if_neg (by simp [h1]), e, h3]
      simp only [List.length_singleton, Nat.add_zero]
      rw [splitK_spl c f (l.drop (i + 1)) (by rw [List.length_drop]; omega)]
theorem split_spl (c : UInt8) (l : List UInt8) : split l [c] = spl c l := splitK_spl c _ l (Nat.lt_succ_self _)
theorem splitB_spl (sep : ByteArray) (c : UInt8) (hc : sep.data.toList = [c]) (s : ByteArray) : (splitB sep 0 (countB s sep) s).map (·.data.toList) = spl c s.data.toList := by
  rw [splitB_data, hc, ← split_spl]
  unfold split
  rw [← hc]
theorem cut_tw (c : UInt8) (l : List UInt8) : (cut l [c]).1 = l.takeWhile (· != c) := by
  unfold cut
  rcases idx_spl c l with ⟨h1, _, h3⟩ | ⟨i, h1, _, _, h4⟩
  · rw [if_neg (by omega), h3]
  · rw [if_pos (by omega), h4]
    have e : (index l [c]).toNat = i := by omega
    rw [e]
/-- the words of each line that has some -/
def dln (l : List UInt8) : List (List (List UInt8)) := ((spl 10 l).map fun x => wds (x.takeWhile (· != 59))).filter (fun x => !x.isEmpty)

/-- tabs are blanks -/
def t2b (b : UInt8) : UInt8 := if b = 9 then 32 else b
theorem t2b_32 (b : UInt8) : (t2b b == 32) = blk b := by
  unfold t2b blk
  by_cases e : b = 9
  · subst e; rfl
  · rw [if_neg e]
    simp [e]
theorem wgo_spl : ∀ (l cur : List UInt8), (∀ b ∈ cur, blk b = false) → wgo cur l = (match spl 32 (l.map t2b) with | [] => [] | x :: r => (cur ++ x) :: r).filter (fun x => !x.isEmpty)
  | [], cur, _ => by
    cases cur with
    | nil => rfl
    | cons a t => simp [wgo, spl]
  | b :: t, cur, hcur => by
    rw [wgo, List.map_cons, spl, t2b_32]
    cases hb : blk b with
    | true =>
      simp only [if_true]
      rw [wgo_spl t [] (by simp)]
      cases hq : spl 32 (t.map t2b) with
      | nil => exact absurd hq (spl_ne _ _)
      | cons x r =>
        cases cur with
        | nil => simp
        | cons a u => simp
    | false =>
      have e9 : t2b b = b := by
        unfold t2b
        rw [if_neg]
        intro e
        rw [e] at hb
        revert hb
        decide
      simp only [Bool.false_eq_true, if_false]
      rw [wgo_spl t (cur ++ [b]) (by
        intro x hx
        rcases List.mem_append.mp hx with h | h
        · exact hcur x h
        · rw [List.mem_singleton.mp h]; exact hb), e9]
      cases hq : spl 32 (t.map t2b) with
      | nil => exact absurd hq (spl_ne _ _)
      | cons x r => simp
theorem wds_spl (l : List UInt8) : wds l = (spl 32 (l.map t2b)).filter (fun x => !x.isEmpty) := by
  unfold wds
  rw [wgo_spl l [] (by simp)]
  cases hq : spl 32 (l.map t2b) with
  | nil => exact absurd hq (spl_ne _ _)
  | cons x r => simp

theorem spl_length (c : UInt8) : ∀ l, (spl c l).length = l.count c + 1
  | [] => rfl
  | b :: t => by
    rw [spl, List.count_cons]
    have h := spl_length c t
    cases e : b == c with
    | true => simp; exact h
    | false =>
      simp only [Bool.false_eq_true, if_false]
      cases hq : spl c t with
      | nil => exact absurd hq (spl_ne _ _)
      | cons x r => rw [hq] at h; simp at h ⊢; exact h

/- numbers -/
def nmA (n : Nat) : List UInt8 → Option Nat
  | [] => some n
  | b :: t => if 48 ≤ b.toNat ∧ b.toNat ≤ 57 then nmA (n * 10 + (b.toNat - 48)) t else none
/-- the number that a word is -/
def nmb (w : List UInt8) : Option Nat := if 7 < w.length then none else nmA 0 w
/-- decimal digits, with fuel: the kernel reckons it -/
def dgF : Nat → Nat → List UInt8
  | 0, _ => []
  | f + 1, n => if n < 10 then [UInt8.ofNat (48 + n)] else dgF f (n / 10) ++ [UInt8.ofNat (48 + n % 10)]
def dg (n : Nat) : List UInt8 := dgF 20 n
theorem dgF_dec : ∀ (f n : Nat), n < 10 ^ (f + 1) → dgF (f + 1) n = decDigits n
  | 0, n, h => by
    rw [dgF, decDigits, if_pos (by simpa using h), dif_pos (by simpa using h)]
  | f + 1, n, h => by
    rw [dgF, decDigits]
    by_cases h1 : n < 10
    · rw [if_pos h1, dif_pos h1]
    · rw [if_neg h1, dif_neg h1, dgF_dec f (n / 10) (by rw [Nat.pow_succ] at h; omega)]
theorem dg_dec {n : Nat} (h : n < 10 ^ 20) : dg n = decDigits n := dgF_dec 19 n h
theorem dg_itoa {n : Nat} (h : n < 10 ^ 20) : itoa (n : Int) = dg n := by
  unfold itoa
  rw [if_neg (by omega), Int.toNat_natCast, dg_dec h]

end Go.Proofs.YtpnjnedfcdppaaaGreatDoor

/-
  HEIGHTS: math/bits.TrailingZeros64 over its table, skip.Height.
-/
namespace Go.Proofs.YtpnjnedfcdppaaaGreatDoor
open Go.RowKit

/-- the table in its variable -/
def Tb (w : World) : Prop := ∀ j, j < 64 → w.cell? ⟨3, j, none⟩ = some (.int .u8 (Lib.deBruijn64tab.getD j 0))
theorem Tb.lt {w : World} (h : Tb w) : 3 < w.heap.size := by
  have h0 := h 0 (by decide)
  rcases Nat.lt_or_ge 3 w.heap.size with hlt | hge
  · exact hlt
  · unfold World.cell? at h0; rw [Array.getElem?_eq_none (by exact hge)] at h0; cases h0
theorem Tb.below {w w' : World} {B : Nat} (h : Tb w) (hb : Below B w w') (hB : 3 < B) : Tb w' := fun j hj => (hb.cell (by exact hB)).trans (h j hj)
theorem Tb.next {w w' : World} (h : Tb w) (hb : Below w.heap.size w w') : Tb w' := h.below hb h.lt

theorem low_key (x a : Nat) (hx : x < 18446744073709551616) (hx0 : x ≠ 0) (hlow : x &&& (18446744073709551616 - x) = a) :
    IntKind.u64.wrap (bits BinOp.and IntKind.u64 (x : Int) (IntKind.u64.wrap (-(x : Int))) * 285870213051353865) / 288230376151711744 = ((a * 285870213051353865 % 18446744073709551616 / 288230376151711744 : Nat) : Int) := by
  have e1 : IntKind.u64.wrap (-(x : Int)) = ((18446744073709551616 - x : Nat) : Int) := by rw [IntKind.wrap_u64]; omega
  rw [e1, bits_and_u64_nat x _ hx (by omega), hlow, IntKind.wrap_u64]
  omega

set_option maxHeartbeats 1000000 in
theorem tz_core (x k idx : Nat) (w : World) (hx0 : ((x : Int) == 0) = false)
    (key : IntKind.u64.wrap (bits BinOp.and IntKind.u64 (x : Int) (IntKind.u64.wrap (-(x : Int))) * 285870213051353865) / 288230376151711744 = (idx : Int))
    (hi : idx < 64) (hk : k < 64) (hcell : w.cell? ⟨3, idx, none⟩ = some (.int .u8 k)) :
    Calls Tryz.prog 222 #[.int .u64 x] w fun e w' => e = .returned (I k) ∧ w' = w := by
  go_enter Tryz.func222, Tryz.ntmps222
  go_wp2_with (simp only [key])
  go_ret
  exact ⟨rfl, rfl⟩
theorem tz_zero (w : World) : Calls Tryz.prog 222 #[.int .u64 0] w fun e w' => e = .returned (I 64) ∧ w' = w := by
  go_enter Tryz.func222, Tryz.ntmps222
  go_wp2
  go_ret
  exact ⟨rfl, rfl⟩
theorem tz_any (x : Nat) (hx : x < 18446744073709551616) (w : World) (hT : Tb w) :
    Calls Tryz.prog 222 #[.int .u64 x] w fun e w' => e = .returned (I (Lib.ctz 64 x)) ∧ w' = w := by
  by_cases hx0 : x = 0
  · subst hx0
    exact tz_zero w
  · obtain ⟨hlow, hk⟩ := Lib.lowest_bit 64 x hx0 hx
    obtain ⟨hi, htab⟩ := Lib.deBruijn64_at _ hk
    have hcell := hT _ hi
    rw [htab] at hcell
    exact tz_core x _ _ w (by simp; omega) (low_key x _ hx hx0 hlow) hi hk hcell

/-- the number's bits, mixed -/
def mix1 (x : Nat) : Nat := (x ^^^ x / 1073741824) * 13787848793156543929 % 18446744073709551616
def mix2 (x : Nat) : Nat := (x ^^^ x / 134217728) * 10723151780598845931 % 18446744073709551616
def mix3 (x : Nat) : Nat := x ^^^ x / 2147483648
def mixR (key : Int) : Nat := mix3 (mix2 (mix1 (key % 18446744073709551616).toNat))
/-- the height of a key -/
def ht (key : Int) : Nat := min (Lib.ctz 64 (mixR key) + 1) 12
theorem mix1_lt (x : Nat) : mix1 x < 18446744073709551616 := Nat.mod_lt _ (by decide)
theorem mix2_lt (x : Nat) : mix2 x < 18446744073709551616 := Nat.mod_lt _ (by decide)
theorem mix3_lt (x : Nat) (h : x < 18446744073709551616) : mix3 x < 18446744073709551616 :=
  Nat.xor_lt_two_pow (n := 64) h (by omega)
theorem ctz_le (x : Nat) (h : x < 18446744073709551616) : Lib.ctz 64 x ≤ 64 := by
  by_cases h0 : x = 0
  · subst h0; decide
  · have := (Lib.lowest_bit 64 x h0 h).2
    omega
theorem mixR_lt (key : Int) : mixR key < 18446744073709551616 := mix3_lt _ (mix2_lt _)
theorem ht_pos (key : Int) : 1 ≤ ht key := by unfold ht; omega
theorem ht_le (key : Int) : ht key ≤ 12 := by unfold ht; omega

theorem x3 (X : Nat) (hX : X < 18446744073709551616) : bits .xor .u64 (X : Int) ((X : Int) / 2147483648) = ((mix3 X : Nat) : Int) := xorShift_u64 X 2147483648 hX
theorem x1 (X : Nat) (hX : X < 18446744073709551616) : IntKind.u64.wrap (bits .xor .u64 (X : Int) ((X : Int) / 1073741824) * 13787848793156543929) = ((mix1 X : Nat) : Int) := mixStep_u64 X 1073741824 13787848793156543929 hX
theorem x2 (X : Nat) (hX : X < 18446744073709551616) : IntKind.u64.wrap (bits .xor .u64 (X : Int) ((X : Int) / 134217728) * 10723151780598845931) = ((mix2 X : Nat) : Int) := mixStep_u64 X 134217728 10723151780598845931 hX
theorem x0 (key : Int) : IntKind.u64.wrap key = (((key % 18446744073709551616).toNat : Nat) : Int) := by rw [IntKind.wrap_u64]; omega

theorem min_ht (c : Nat) : min ((c : Int) + 1) 12 = ((min (c + 1) 12 : Nat) : Int) := by omega

set_option maxHeartbeats 1000000 in
theorem Height_any (key : Int) (w : World) (hT : Tb w) :
    Calls Tryz.prog 191 #[I key] w fun e w' => e = .returned (I (ht key)) ∧ w' = w := by
  obtain ⟨a, ha⟩ : ∃ a, (key % 18446744073709551616).toNat = a := ⟨_, rfl⟩
  have hal : a < 18446744073709551616 := by omega
  have h0 : IntKind.u64.wrap key = (a : Int) := by rw [x0, ha]
  obtain ⟨b, hb⟩ : ∃ b, mix1 a = b := ⟨_, rfl⟩
  have h1 : IntKind.u64.wrap (bits .xor .u64 (a : Int) ((a : Int) / 1073741824) * 13787848793156543929) = (b : Int) := by rw [x1 a hal, hb]
  have hbl : b < 18446744073709551616 := by rw [← hb]; exact mix1_lt _
  obtain ⟨c, hc⟩ : ∃ c, mix2 b = c := ⟨_, rfl⟩
  have h2 : IntKind.u64.wrap (bits .xor .u64 (b : Int) ((b : Int) / 134217728) * 10723151780598845931) = (c : Int) := by rw [x2 b hbl, hc]
  have hcl : c < 18446744073709551616 := by rw [← hc]; exact mix2_lt _
  obtain ⟨d, hd⟩ : ∃ d, mix3 c = d := ⟨_, rfl⟩
  have h3 : bits .xor .u64 (c : Int) ((c : Int) / 2147483648) = (d : Int) := by rw [x3 c hcl, hd]
  have hdl : d < 18446744073709551616 := by rw [← hd]; exact mix3_lt _ hcl
  have hR : mixR key = d := by unfold mixR; rw [ha, hb, hc, hd]
  obtain ⟨z, hz⟩ : ∃ z, Lib.ctz 64 d = z := ⟨_, rfl⟩
  have hzl : z ≤ 64 := by rw [← hz]; exact ctz_le d hdl
  have HH : Hid (((min (z + 1) 12 : Nat) : Int) = (ht key : Int)) := by show _ = _; unfold ht; rw [hR, hz]
  have HT := Lib.hid (show Calls Tryz.prog 222 #[.int .u64 d] w fun e w' => e = .returned (I z) ∧ w' = w by rw [← hz]; exact tz_any d hdl w hT)
  have H0 := Lib.hid h0
  have H1 := Lib.hid h1
  have H2 := Lib.hid h2
  have H3 := Lib.hid h3
  clear ha hb hc hd hR hz h0 h1 h2 h3
  go_enter Tryz.func191, Tryz.ntmps191
  go_wp2_with (first | simp only [H0.out] | simp only [H1.out] | simp only [H2.out] | simp only [H3.out] | fail)
  refine HT.out.mono ?_
  rintro e w' ⟨rfl, rfl⟩
  go_wp2
  all_goals
    go_ret
    refine ⟨ret_int ?_, rfl⟩
    rw [← HH.out, ← min_ht]
    omega
end Go.Proofs.YtpnjnedfcdppaaaGreatDoor

/-
  A slice of numbers; slices.Equal at int.
-/
namespace Go.Proofs.YtpnjnedfcdppaaaGreatDoor
open Go.RowKit

/-- a slice of numbers -/
structure IS (w : World) (A : Option Addr) (n c : Nat) (l : List Int) : Prop where
  len : l.length = n
  rd : Rd w w.heap.size 1 A n c (fun i _ => I (l[i]?.getD 0))
theorem IS.below {w w' : World} {n c : Nat} {A : Option Addr} {l : List Int} (h : IS w A n c l) (hb : Below w.heap.size w w') : IS w' A n c l := ⟨h.len, h.rd.below hb⟩
theorem IS.at_ {w : World} {n c : Nat} {A : Option Addr} {l : List Int} (h : IS w A n c l) (hn : 0 < n) :
    ∃ b off, A = some ⟨b, off, none⟩ ∧ b < w.heap.size ∧ ∀ i (hi : i < n), w.cell? ⟨b, off + i, none⟩ = some (I (l[i]'(by rw [h.len]; exact hi))) := by
  obtain ⟨b, off, e, hb, hc⟩ := h.rd.2 hn
  refine ⟨b, off, e, hb, fun i hi => ?_⟩
  have hl : i < l.length := by rw [h.len]; exact hi
  have h0 := hc i hi 0 (by omega)
  simpa [List.getElem?_eq_getElem hl] using h0

theorem eq_step {α : Type} {l m : List α} {n k : Nat} (hl : l.length = n) (hm : m.length = n) (hk : n ≤ k) (h : ∀ i, i < k → l[i]? = m[i]?) : l = m := by
  apply List.ext_getElem?
  intro i
  rcases Nat.lt_or_ge i k with h1 | h1
  · exact h i h1
  · rw [List.getElem?_eq_none (by omega), List.getElem?_eq_none (by omega)]
def sameTo {α : Type} (l m : List α) (k : Nat) : Prop := ∀ i, i < k → l[i]? = m[i]?
theorem sameTo_succ {α : Type} {l m : List α} {k : Nat} (h : sameTo l m k) (h1 : l[k]? = m[k]?) : sameTo l m (k + 1) := fun i hi => by
  rcases Nat.lt_or_ge i k with h2 | h2
  · exact h i h2
  · obtain rfl : i = k := by omega
    exact h1

set_option maxHeartbeats 1000000 in
theorem eqInt_any (A A' : Option Addr) (n n' c c' : Nat) (l m : List Int) (w : World) (h : IS w A n c l) (h' : IS w A' n' c' m) (hn : n ≤ 1000000) (hn' : n' ≤ 1000000) :
    Calls Tryz.prog 26 #[.slice A n c, .slice A' n' c'] w fun e w' => e = .returned (.bool (decide (l = m))) ∧ Below w.heap.size w w' := by
  have H := Lib.hid h
  have H' := Lib.hid h'
  clear h h'
  by_cases hnn : n = n'
  · subst hnn
    have hne : ((n : Int) != (n : Int)) = false := by simp
    go_enter Tryz.func26, Tryz.ntmps26
    go_wp2
    go_loopw [13] (fun i wr => ∃ k : Nat, k ≤ n ∧ i = .int .i64 k ∧ sameTo l m k ∧ Below w.heap.size w wr) (fun i _ => n - (intOf i).toNat)
    case atStart => exact ⟨0, Nat.zero_le _, rfl, fun i hi => absurd hi (by omega), Below.refl _ _⟩
    case round =>
      obtain ⟨k, hk, rfl, hsame, hnx⟩ := hrel
      have hsz := hnx.size
      by_cases hlt : k < n
      · obtain ⟨b, off, rfl, hb, hc⟩ := H.out.at_ (by omega)
        obtain ⟨b', off', rfl, hb', hc'⟩ := H'.out.at_ (by omega)
        have hkl : k < l.length := by have := H.out.len; omega
        have hkm : k < m.length := by have := H'.out.len; omega
        have hc0 : wr.cell? ⟨b, off + k, none⟩ = some (I l[k]) := (hnx.cell (by exact hb)).trans (hc k hlt)
        have hc1 : wr.cell? ⟨b', off' + k, none⟩ = some (I m[k]) := (hnx.cell (by exact hb')).trans (hc' k hlt)
        clear hc hc'
        by_cases heq : l[k] = m[k]
        · have HS : Hid (sameTo l m (k + 1)) := sameTo_succ hsame (by rw [List.getElem?_eq_getElem hkl, List.getElem?_eq_getElem hkm, heq])
          have hb0 : (l[k] != m[k]) = false := by simp [heq]
          have HE := Lib.hid heq
          clear heq hsame
          go_wp2
          go_quiet (fail)
          go_wp2
          go_roundw
          case rel => exact ⟨k + 1, by omega, by go_num, HS.out, below_drewN hnx _⟩
          case measure => simp [intOf]; omega
        · have HF : Hid (decide (l = m) = false) := by
            refine decide_eq_false ?_
            intro e
            subst e
            exact heq rfl
          have hb0 : (l[k] != m[k]) = true := by simp [heq]
          clear heq hsame
          go_wp2
          go_quiet (fail)
          go_wp2
          go_ret
          exact ⟨by rw [HF.out]; rfl, below_drewN hnx _⟩
      · have HF : Hid (decide (l = m) = true) := decide_eq_true (eq_step H.out.len H'.out.len (by omega) hsame)
        clear hsame
        go_wp2
        go_ret
        exact ⟨by rw [HF.out]; rfl, hnx⟩
  · have HF : Hid (decide (l = m) = false) := by
      refine decide_eq_false ?_
      intro e
      subst e
      exact hnn (H.out.len.symm.trans H'.out.len)
    have hne : ((n : Int) != (n' : Int)) = true := by simp; omega
    clear hnn
    go_enter Tryz.func26, Tryz.ntmps26
    go_wp2
    go_ret
    exact ⟨by rw [HF.out]; rfl, Below.refl _ _⟩

end Go.Proofs.YtpnjnedfcdppaaaGreatDoor

/-
  ROWS OF NUMBERS of the call's own; hedgkeep.ok.
-/
namespace Go.Proofs.YtpnjnedfcdppaaaGreatDoor
open Go.RowKit

/-- block g is just the numbers L -/
def IB (w : World) (g t : Nat) (L : List Int) : Prop := w.heap[g]? = some (.cells (L.map I).toArray t (0, 0))
theorem IB.lt {w : World} {g t : Nat} {L : List Int} (h : IB w g t L) : g < w.heap.size := by
  rcases Nat.lt_or_ge g w.heap.size with hlt | hge
  · exact hlt
  · unfold IB at h; rw [Array.getElem?_eq_none hge] at h; cases h
theorem IB.cell {w : World} {g t : Nat} {L : List Int} (h : IB w g t L) (i : Nat) : w.cell? ⟨g, i, none⟩ = L[i]?.map I := by
  unfold IB at h
  simp [World.cell?, h]
theorem IB.frozen {w : World} {g t : Nat} {L : List Int} (h : IB w g t L) (i : Nat) : w.frozen? ⟨g, i, none⟩ = false := by
  unfold IB at h
  simp [World.frozen?, h]
theorem IB.is_ {w : World} {g t c : Nat} {L : List Int} (h : IB w g t L) (hc : L.length ≤ c) : IS w (some ⟨g, 0, none⟩) L.length c L := by
  refine ⟨rfl, hc, fun _ => ⟨g, 0, rfl, h.lt, fun i hi j hj => ?_⟩⟩
  obtain rfl : j = 0 := by omega
  rw [h.cell]
  simp [List.getElem?_eq_getElem hi]
theorem IB.below {w w' : World} {g t B : Nat} {L : List Int} (h : IB w g t L) (hb : Below B w w') (hg : g < B) : IB w' g t L := (hb.block g hg).trans h
theorem IB.new (w : World) (t : Nat) (L : List Int) : IB (w.alloc (.cells (L.map I).toArray t)) w.heap.size t L := heap_alloc_new w _
theorem IB.set {w : World} {g t : Nat} {L : List Int} (h : IB w g t L) (i : Nat) (v : Int) : IB (w.setCell ⟨g, i, none⟩ (I v)) g t (L.set i v) := by
  unfold IB at *
  rw [setCell_eq_setRow w g i _ t (0, 0) (I v) h, setRow_heap w g _ _ t (0, 0) h]
  simp [List.map_set]
theorem int_info : (Tryz.prog.info? 3).map (fun i => (i.zero, i.size, i.bytes)) = some (some (I 0), 1, 8) := by kernel_rfl
theorem run_makeI {P : Program} (t e : TypeId) (ht : P.underlying t = some (.slice e)) (hi : (P.info? e).map (fun i => (i.zero, i.size, i.bytes)) = some (some (I 0), 1, 8)) (n c : Nat) (hn : n ≤ c) (hc : c ≤ 1000000) (w : World) :
    (Instr.makeSlice t (.int .i64 (n : Int)) (.int .i64 (c : Int))).run P w = .ok (.slice (some ⟨w.heap.size, 0, none⟩) n c) (w.alloc (.cells ((List.replicate c (0 : Int)).map I).toArray e)) := by
  obtain ⟨i, h1, hz, hs, hb⟩ := info_parts hi
  have := run_make (P := P) w t e i _ ht h1 hz .i64 .i64 n c (by omega) (by omega) (by rw [hb]; omega) (by omega)
  rw [this, hs]
  simp only [Int.toNat_natCast, Value.cells]
  congr 3
  apply Array.ext
  · simp [size_madeCells]
  · intro k h1 h2
    simp [madeCells, Nat.mod_one]

/-- a list of numbers in new memory, and no error -/
def RetIs (L : List Int) (w : World) (e : Ending) (w' : World) : Prop :=
  ∃ A n c, e = .returned (.tuple #[.slice A n c, I 0]) ∧ IS w' A n c L ∧ Below w.heap.size w w' ∧ ∀ ad, A = some ad → w.heap.size ≤ ad.block

/-- a slice of the call's own that reads as numbers -/
def OwnI (w : World) (base : Nat) (v : Value) (L : List Int) : Prop := w.ownsRow base 3 1 v L.length (L.map I)
theorem own_below {w w' : World} {base e s n : Nat} {v : Value} {xs : List Value} (h : w.ownsRow base e s v n xs) (hb : Below w.heap.size w w') : w'.ownsRow base e s v n xs := by
  refine ⟨h.1, ?_⟩
  rcases h.2 with h0 | ⟨g, cap, cur, h1, h2, h3, h4⟩
  · exact .inl h0
  · refine .inr ⟨g, cap, cur, h1, h2, ?_, h4⟩
    rw [hb.block g ?_]
    · exact h3
    · rcases Nat.lt_or_ge g w.heap.size with hlt | hge
      · exact hlt
      · rw [Array.getElem?_eq_none hge] at h3; cases h3
theorem own_ge1 {w : World} {base e s n : Nat} {v : Value} {xs : List Value} (h : w.ownsRow base e s v n xs) : ∀ g, v.ownBlock = some g → base ≤ g := by
  intro g hg
  rcases h.2 with ⟨rfl, _⟩ | ⟨g', cap, cur, rfl, hb, _⟩
  · simp [Value.ownBlock] at hg
  · simp [Value.ownBlock] at hg; omega
theorem own_mono1 {w : World} {B B' e s n : Nat} {v : Value} {xs : List Value} (h : w.ownsRow B e s v n xs) (hB : B' ≤ B) : w.ownsRow B' e s v n xs := by
  refine ⟨h.1, ?_⟩
  rcases h.2 with h0 | ⟨g, cap, cur, h1, h2, h3⟩
  · exact .inl h0
  · exact .inr ⟨g, cap, cur, h1, by omega, h3⟩
theorem OwnI.is_ {w : World} {base : Nat} {v : Value} {L : List Int} (h : OwnI w base v L) : ∃ A c, v = .slice A L.length c ∧ IS w A L.length c L ∧ ∀ ad, A = some ad → base ≤ ad.block := by
  rcases h.2 with ⟨rfl, h0⟩ | ⟨g, cap, cur, rfl, hb, hg, hnc, _, hsz, htk⟩
  · have hl : L = [] := List.eq_nil_of_length_eq_zero h0
    subst hl
    exact ⟨none, 0, rfl, ⟨rfl, Rd.none_⟩, fun _ h => by cases h⟩
  · refine ⟨_, cap, rfl, ⟨rfl, hnc, fun _ => ⟨g, 0, rfl, ?_, fun i hi j hj => ?_⟩⟩, fun ad h => by cases h; exact hb⟩
    · rcases Nat.lt_or_ge g w.heap.size with hlt | hge
      · exact hlt
      · rw [Array.getElem?_eq_none hge] at hg; cases hg
    · obtain rfl : j = 0 := by omega
      rw [cell_of_row _ _ _ _ _ _ hg]
      have : (L.map I)[i]? = some (I L[i]) := by simp [List.getElem?_eq_getElem hi]
      rw [← htk, List.getElem?_take, if_pos (by omega)] at this
      simpa [List.getElem?_eq_getElem hi] using this
theorem IS.drop {w : World} {n c c' : Nat} {A : Option Addr} {l : List Int} (h : IS w A n c l) (k : Nat) (hk : k ≤ n) (sp : Option Addr) (hs : k < n → ∀ b off, A = some ⟨b, off, none⟩ → sp = some ⟨b, off + k, none⟩) (hc' : n - k ≤ c') : IS w sp (n - k) c' (l.drop k) := by
  refine ⟨by simp [h.len], hc', fun h0 => ?_⟩
  obtain ⟨b, off, e, hb, hc⟩ := h.rd.2 (by omega)
  refine ⟨b, off + k, hs (by omega) b off e, hb, fun i hi j hj => ?_⟩
  have := hc (k + i) (by omega) j hj
  rw [show off + ((k + i) * 1 + j) = off + k + (i * 1 + j) by omega] at this
  rw [this]
  simp [List.getElem?_drop]
theorem IS.take {w : World} {n c : Nat} {A : Option Addr} {l : List Int} (h : IS w A n c l) (k : Nat) (hk : k ≤ n) : IS w A k c (l.take k) := by
  refine ⟨by simp [h.len]; omega, by have := h.rd.1; omega, fun h0 => ?_⟩
  obtain ⟨b, off, e, hb, hc⟩ := h.rd.2 (by omega)
  refine ⟨b, off, e, hb, fun i hi j hj => ?_⟩
  rw [hc i (by omega) j hj]
  simp [List.getElem?_take, hi]
theorem IS.alloc {w : World} {n c : Nat} {A : Option Addr} {l : List Int} (h : IS w A n c l) (o : Obj) : IS (w.alloc o) A n c l := h.below ((Below.refl _ _).alloc (Nat.le_refl _) o)

theorem one_I (k : Int) : ∀ u ∈ [I k], u.oneCell' = true := by
  intro u hu
  simp at hu
  subst hu
  rfl

/-- a row of numbers comes back, nothing below base has turned -/
def RetOwn (L : List Int) (base : Nat) (w : World) (e : Ending) (w' : World) : Prop := ∃ v, e = .returned v ∧ OwnI w' base v L ∧ Below base w w'

theorem is_new (w : World) (t : Nat) (L : List Int) : IS (w.alloc (.cells (L.map I).toArray t)) (some ⟨w.heap.size, 0, none⟩) L.length L.length L := (IB.new w t L).is_ (Nat.le_refl _)

end Go.Proofs.YtpnjnedfcdppaaaGreatDoor
