/-
  Joined texts: YtpnjnedfcdppaaaGreatDoorDPure, YtpnjnedfcdppaaaGreatDoorDSpl, YtpnjnedfcdppaaaGreatDoorDRefP.
-/
import Derived.Lib.FieldsP
import Derived.Lib.SpaceUEq
import Derived.Lib.Split
import Derived.Lib.IndexMore
import Derived.Lib.ItoaNum
import Derived.Lib.Join
import Derived.Lib.Replace
/-
  The desk's words, plain: what blanks and tabs part, by bytes; and that Go's own pass over the runes parts them so. No program.
-/
namespace Go.Proofs.YtpnjnedfcdppaaaGreatDoor
open Go.Lib

def blk (b : UInt8) : Bool := b == 32 || b == 9
def blkN (x : Nat) : Bool := x == 32 || x == 9
theorem blk_N (b : UInt8) : blk b = blkN b.toNat := by
  unfold blk blkN
  have h1 : (b == 32) = (b.toNat == 32) := by rw [Bool.eq_iff_iff]; simp [← UInt8.toNat_inj]
  have h2 : (b == 9) = (b.toNat == 9) := by rw [Bool.eq_iff_iff]; simp [← UInt8.toNat_inj]
  rw [h1, h2]
def wgo (cur : List UInt8) : List UInt8 → List (List UInt8)
  | [] => if cur = [] then [] else [cur]
  | b :: t => if blk b then (if cur = [] then wgo [] t else cur :: wgo [] t) else wgo (cur ++ [b]) t
def wds (l : List UInt8) : List (List UInt8) := wgo [] l
theorem wgo_skip : ∀ (k : Nat) (cur l : List UInt8), k ≤ l.length → (∀ j, j < k → blk (l.getD j 0) = false) → wgo cur l = wgo (cur ++ l.take k) (l.drop k)
  | 0, cur, l, _, _ => by simp
  | k + 1, cur, [], h, _ => by simp at h
  | k + 1, cur, b :: t, h, hz => by
    have h0 : blk b = false := hz 0 (by omega)
    rw [wgo, h0]
    rw [if_neg (by simp), wgo_skip k (cur ++ [b]) t (by simp at h; omega) (fun j hj => by have := hz (j + 1) (by omega); simpa using this)]
    simp
theorem rune_blk (l : List UInt8) (hne : l ≠ []) : (blkN (decodeL l).1 = true → (decodeL l).2 = 1 ∧ blk (l.getD 0 0) = true) ∧ (blkN (decodeL l).1 = false → ∀ j, j < (decodeL l).2 → blk (l.getD j 0) = false) := by
  rw [decodeL_N]
  obtain ⟨c1, c2, c3, c4⟩ := decodeN_conts l.length (l.getD 0 0).toNat (l.getD 1 0).toNat (l.getD 2 0).toNat (l.getD 3 0).toNat
  have hc := decodeN_cases l.length (l.getD 0 0).toNat (l.getD 1 0).toNat (l.getD 2 0).toNat (l.getD 3 0).toNat
  obtain ⟨R, hR⟩ : ∃ R, decodeN l.length (l.getD 0 0).toNat (l.getD 1 0).toNat (l.getD 2 0).toNat (l.getD 3 0).toNat = R := ⟨_, rfl⟩
  rw [hR] at c1 c2 c3 c4 hc ⊢
  obtain ⟨r, m⟩ := R
  simp only [Prod.mk.injEq] at c1 c2 c3 c4 hc ⊢
  have hbn : ∀ x : Nat, blkN x = true ↔ x = 32 ∨ x = 9 := fun x => by unfold blkN; simp
  have hbf : ∀ x : Nat, blkN x = false ↔ ¬ (x = 32 ∨ x = 9) := fun x => by rw [← hbn, Bool.not_eq_true]
  simp only [blk_N]
  refine ⟨fun h => ?_, fun h j hj => ?_⟩
  · rw [hbn] at h ⊢
    omega
  · rw [hbf] at h ⊢
    have hj4 : j = 0 ∨ j = 1 ∨ j = 2 ∨ j = 3 := by omega
    rcases hj4 with rfl | rfl | rfl | rfl
    · rcases hc with ⟨_, h1, _⟩ | h1 | h1 | h1 | h1
      · omega
      all_goals (by_cases h0 : (l.getD 0 0).toNat < 128
                 · have := congrArg (fun q : Nat × Nat => q.1) hR
                   simp only [decodeN, h0, if_true] at this
                   omega
                 · omega)
    · have := (c1 (by omega)).1; omega
    · have := (c2 (by omega)).1; omega
    · have := (c3 (by omega)).1; omega
theorem spansB_eq (s : ByteArray) : ∀ (f pos : Nat) (st : Option Nat) (acc : List (Nat × Nat)), s.size ≤ pos + f → pos ≤ s.size → (∀ a, st = some a → a < pos) →
    acc.map (fun p => pieceU s.data.toList p.1 p.2) ++ wgo (openPiece s.data.toList st pos) (s.data.toList.drop pos) = (closeSpans s (spansFromP blkN s f pos st acc)).map (fun p => pieceU s.data.toList p.1 p.2) := by
  intro f
  induction f with
  | zero =>
    intro pos st acc h hp hst
    obtain rfl : pos = s.size := by omega
    rw [List.drop_eq_nil_of_le (by rw [← size_eq]; exact Nat.le_refl _)]
    cases st with
    | none => simp [spansFromP, closeSpans, openPiece, wgo]
    | some a =>
      have := pieceU_ne s.data.toList a s.size (hst a rfl) (by rw [← size_eq]; exact Nat.le_refl _)
      simp [spansFromP, closeSpans, openPiece, wgo, this]
  | succ f ihf =>
    intro pos st acc h hp hst
    by_cases hlt : pos < s.size
    · have hlen : (s.data.toList.drop pos).length = s.size - pos := by rw [List.length_drop, ← size_eq]
      have hne : s.data.toList.drop pos ≠ [] := by
        intro h0
        rw [h0] at hlen
        simp at hlen
        omega
      have hw := width_pos s pos
      have hwn : pos + (Utf8.decode s pos).2 ≤ s.size := by
        have := decodeN_le_n' (s.size - pos) (s.get! pos).toNat (s.get! (pos + 1)).toNat (s.get! (pos + 2)).toNat (s.get! (pos + 3)).toNat (by omega)
        rw [← decode_at] at this
        omega
      obtain ⟨r1, r2⟩ := rune_blk _ hne
      rw [decodeL_drop] at r1 r2
      simp only [spansFromP, if_pos hlt]
      cases hsp : blkN (Utf8.decode s pos).1 with
      | true =>
        obtain ⟨e1, e2⟩ := r1 hsp
        simp only [if_true]
        have hd : s.data.toList.drop pos = (s.data.toList.drop pos).getD 0 0 :: s.data.toList.drop (pos + 1) := by
          cases hq : s.data.toList.drop pos with
          | nil => exact absurd hq hne
          | cons b t =>
            have : s.data.toList.drop (pos + 1) = t := by rw [← List.drop_drop, hq]; rfl
            rw [this]
            rfl
        rw [hd, wgo, e2, if_pos rfl, e1]
        cases st with
        | none =>
          have ih := ihf (pos + 1) none acc (by omega) (by omega) (fun a h => by cases h)
          simpa [openPiece] using ih
        | some a =>
          have hpn := pieceU_ne s.data.toList a pos (hst a rfl) (by rw [← size_eq]; omega)
          have ih := ihf (pos + 1) none (acc ++ [(a, pos)]) (by omega) (by omega) (fun a h => by cases h)
          simpa [openPiece, hpn] using ih
      | false =>
        simp only [Bool.false_eq_true, if_false]
        rw [wgo_skip (Utf8.decode s pos).2 _ _ (by rw [hlen]; omega) (r2 hsp), List.drop_drop]
        cases st with
        | none =>
          have ih := ihf (pos + (Utf8.decode s pos).2) (some pos) acc (by omega) hwn (fun a h => by cases h; omega)
          have e : ([] : List UInt8) ++ (s.data.toList.drop pos).take (Utf8.decode s pos).2 = pieceU s.data.toList pos (pos + (Utf8.decode s pos).2) := by
            unfold pieceU
            rw [List.nil_append, Nat.add_sub_cancel_left]
          simp only [openPiece] at ih ⊢
          rw [e]
          exact ih
        | some a =>
          have ih := ihf (pos + (Utf8.decode s pos).2) (some a) acc (by omega) hwn (fun b h => by cases h; have := hst a rfl; omega)
          simp only [openPiece] at ih ⊢
          rw [pieceU_grow _ _ _ _ (Nat.le_of_lt (hst a rfl))]
          exact ih
    · obtain rfl : pos = s.size := by omega
      rw [List.drop_eq_nil_of_le (by rw [← size_eq]; exact Nat.le_refl _), spansFromP_end _ s _ _ _ _ hlt]
      cases st with
      | none => simp [closeSpans, openPiece, wgo]
      | some a =>
        have := pieceU_ne s.data.toList a s.size (hst a rfl) (by rw [← size_eq]; exact Nat.le_refl _)
        simp [closeSpans, openPiece, wgo, this]
theorem extract_piece (s : ByteArray) (a b : Nat) : (s.extract a b).data.toList = pieceU s.data.toList a b := by
  unfold pieceU
  rw [ByteArray.data_extract, Array.toList_extract]
theorem fields_wds (s : ByteArray) : (goFieldsP blkN s).map (·.data.toList) = wds s.data.toList := by
  have h := spansB_eq s s.size 0 none [] (by omega) (by omega) (fun a h => by cases h)
  unfold goFieldsP spansOfP
  rw [List.map_map]
  have e : ((fun x : ByteArray => x.data.toList) ∘ fun x : Nat × Nat => s.extract x.1 x.2) = fun p => pieceU s.data.toList p.1 p.2 := by
    funext p
    exact extract_piece s p.1 p.2
  rw [e, ← h]
  simp [openPiece, wds]

def spl (c : UInt8) : List UInt8 → List (List UInt8)
  | [] => [[]]
  | b :: t => if b == c then [] :: spl c t else match spl c t with | [] => [[b]] | x :: r => (b :: x) :: r
theorem spl_ne (c : UInt8) : ∀ l, spl c l ≠ []
  | [] => by simp [spl]
  | b :: t => by
    unfold spl
    split
    · simp
    · split <;> simp

end Go.Proofs.YtpnjnedfcdppaaaGreatDoor

/-
  The desk's text, plain: what one byte parts (strings.Split, Cut, SplitN, ReplaceAll at one byte), digits. No program.
-/
namespace Go.Proofs.YtpnjnedfcdppaaaGreatDoor
open Go.Lib

theorem index1 (c b : UInt8) (t : List UInt8) : index (b :: t) [c] = if c = b then 0 else if index t [c] = -1 then -1 else index t [c] + 1 := by
  rw [index]
  by_cases e : c = b
  · rw [if_pos e, if_pos (by simp [List.isPrefixOf, e])]
  · rw [if_neg e, if_neg (by simp [List.isPrefixOf, e])]
    simp only [beq_iff_eq]
theorem idx_spl (c : UInt8) : ∀ l, (index l [c] = -1 ∧ spl c l = [l] ∧ l.takeWhile (· != c) = l) ∨ ∃ i : Nat, index l [c] = i ∧ i < l.length ∧ spl c l = l.take i :: spl c (l.drop (i + 1)) ∧ l.takeWhile (· != c) = l.take i
  | [] => .inl ⟨by simp [index], rfl, rfl⟩
  | b :: t => by
    rw [index1]
    by_cases e : c = b
    · subst e
      right
      refine ⟨0, by rw [if_pos rfl]; rfl, by simp, ?_, ?_⟩
      · simp [spl]
      · simp
    · have eb : (b == c) = false := by simp; exact fun h => e h.symm
      have en : (b != c) = true := by simp [bne, eb]
      rw [if_neg e, spl, eb, List.takeWhile_cons, if_pos en]
      simp only [Bool.false_eq_true, if_false]
      rcases idx_spl c t with ⟨h1, h2, h3⟩ | ⟨i, h1, h2, h3, h4⟩
      · left
        rw [if_pos h1, h2, h3]
        exact ⟨rfl, rfl, rfl⟩
      · right
        refine ⟨i + 1, ?_, by simp; exact h2, ?_, ?_⟩
        · rw [h1, if_neg (by omega)]; omega
        · rw [h3]; rfl
        · rw [h4]; rfl
theorem splitK_spl (c : UInt8) : ∀ (f : Nat) (l : List UInt8), l.length < f → splitK [c] 0 (countFrom [c] f l) l = spl c l
  | 0, l, h => absurd h (Nat.not_lt_zero _)
  | f + 1, l, h => by
    rw [countFrom]
    rcases idx_spl c l with ⟨h1, h2, _⟩ | ⟨i, h1, h2, h3, _⟩
    · rw [if_pos (by simp [h1]), h2]
      rfl
    · have e : (index l [c]).toNat = i := by omega
      rw [if_neg (by simp [h1]), Nat.add_comm 1, splitK, if_neg (by simp [h1]), e, h3]
      simp only [List.length_singleton, Nat.add_zero]
      rw [splitK_spl c f (l.drop (i + 1)) (by rw [List.length_drop]; omega)]
theorem split_spl (c : UInt8) (l : List UInt8) : split l [c] = spl c l := splitK_spl c _ l (Nat.lt_succ_self _)
theorem splitB_spl (sep : ByteArray) (c : UInt8) (hc : sep.data.toList = [c]) (s : ByteArray) : (splitB sep 0 (countB s sep) s).map (·.data.toList) = spl c s.data.toList := by
  rw [splitB_data, hc, ← split_spl]
  unfold split
  rw [← hc]
theorem cut_tw (c : UInt8) (l : List UInt8) : (cut l [c]).1 = l.takeWhile (· != c) := by
  unfold cut
  rcases idx_spl c l with ⟨h1, _, h3⟩ | ⟨i, h1, _, _, h4⟩
  · rw [if_neg (by omega), h3]
  · rw [if_pos (by omega), h4]
    have e : (index l [c]).toNat = i := by omega
    rw [e]
def dln (l : List UInt8) : List (List (List UInt8)) := ((spl 10 l).map fun x => wds (x.takeWhile (· != 59))).filter (fun x => !x.isEmpty)

def t2b (b : UInt8) : UInt8 := if b = 9 then 32 else b
theorem t2b_32 (b : UInt8) : (t2b b == 32) = blk b := by
  unfold t2b blk
  by_cases e : b = 9
  · subst e; rfl
  · rw [if_neg e]
    simp [e]
theorem wgo_spl : ∀ (l cur : List UInt8), (∀ b ∈ cur, blk b = false) → wgo cur l = (match spl 32 (l.map t2b) with | [] => [] | x :: r => (cur ++ x) :: r).filter (fun x => !x.isEmpty)
  | [], cur, _ => by
    cases cur with
    | nil => rfl
    | cons a t => simp [wgo, spl]
  | b :: t, cur, hcur => by
    rw [wgo, List.map_cons, spl, t2b_32]
    cases hb : blk b with
    | true =>
      simp only [if_true]
      rw [wgo_spl t [] (by simp)]
      cases hq : spl 32 (t.map t2b) with
      | nil => exact absurd hq (spl_ne _ _)
      | cons x r =>
        cases cur with
        | nil => simp
        | cons a u => simp
    | false =>
      have e9 : t2b b = b := by
        unfold t2b
        rw [if_neg]
        intro e
        rw [e] at hb
        revert hb
        decide
      simp only [Bool.false_eq_true, if_false]
      rw [wgo_spl t (cur ++ [b]) (by
        intro x hx
        rcases List.mem_append.mp hx with h | h
        · exact hcur x h
        · rw [List.mem_singleton.mp h]; exact hb), e9]
      cases hq : spl 32 (t.map t2b) with
      | nil => exact absurd hq (spl_ne _ _)
      | cons x r => simp
theorem wds_spl (l : List UInt8) : wds l = (spl 32 (l.map t2b)).filter (fun x => !x.isEmpty) := by
  unfold wds
  rw [wgo_spl l [] (by simp)]
  cases hq : spl 32 (l.map t2b) with
  | nil => exact absurd hq (spl_ne _ _)
  | cons x r => simp

theorem spl_length (c : UInt8) : ∀ l, (spl c l).length = l.count c + 1
  | [] => rfl
  | b :: t => by
    rw [spl, List.count_cons]
    have h := spl_length c t
    cases e : b == c with
    | true => simp; exact h
    | false =>
      simp only [Bool.false_eq_true, if_false]
      cases hq : spl c t with
      | nil => exact absurd hq (spl_ne _ _)
      | cons x r => rw [hq] at h; simp at h ⊢; exact h

/- numbers -/
def nmA (n : Nat) : List UInt8 → Option Nat
  | [] => some n
  | b :: t => if 48 ≤ b.toNat ∧ b.toNat ≤ 57 then nmA (n * 10 + (b.toNat - 48)) t else none
def nmb (w : List UInt8) : Option Nat := if 7 < w.length then none else nmA 0 w
def dgF : Nat → Nat → List UInt8
  | 0, _ => []
  | f + 1, n => if n < 10 then [UInt8.ofNat (48 + n)] else dgF f (n / 10) ++ [UInt8.ofNat (48 + n % 10)]
def dg (n : Nat) : List UInt8 := dgF 20 n
theorem dgF_dec : ∀ (f n : Nat), n < 10 ^ (f + 1) → dgF (f + 1) n = decDigits n
  | 0, n, h => by
    rw [dgF, decDigits, if_pos (by simpa using h), dif_pos (by simpa using h)]
  | f + 1, n, h => by
    rw [dgF, decDigits]
    by_cases h1 : n < 10
    · rw [if_pos h1, dif_pos h1]
    · rw [if_neg h1, dif_neg h1, dgF_dec f (n / 10) (by rw [Nat.pow_succ] at h; omega)]
theorem dg_dec {n : Nat} (h : n < 10 ^ 20) : dg n = decDigits n := dgF_dec 19 n h
theorem dg_itoa {n : Nat} (h : n < 10 ^ 20) : itoa (n : Int) = dg n := by
  unfold itoa
  rw [if_neg (by omega), Int.toNat_natCast, dg_dec h]

end Go.Proofs.YtpnjnedfcdppaaaGreatDoor

/-
  The desk's text as hedgref reads it, plain: SplitN at one byte, tabs into blanks. No program.
-/
namespace Go.Proofs.YtpnjnedfcdppaaaGreatDoor
open Go.Lib

theorem tw_ne {c : UInt8} : ∀ {l : List UInt8} {b : UInt8}, b ∈ l.takeWhile (· != c) → b ≠ c
  | [], b, h => by cases h
  | a :: t, b, h => by
    rw [List.takeWhile_cons] at h
    split at h
    · next hc =>
      rcases List.mem_cons.mp h with rfl | h
      · simpa using hc
      · exact tw_ne h
    · cases h
theorem map_no {l : List UInt8} (h : ∀ b ∈ l, b ≠ 9) : l.map t2b = l := by
  conv => rhs; rw [← List.map_id l]
  refine List.map_congr_left fun b hb => ?_
  simp [t2b, h b hb]
theorem idx_at {c : UInt8} : ∀ {l : List UInt8} {i : Nat}, index l [c] = i → i < l.length → l = l.take i ++ c :: l.drop (i + 1)
  | [], i, h, hi => absurd hi (by simp)
  | b :: t, i, h, hi => by
    rw [index1] at h
    by_cases e : c = b
    · rw [if_pos e] at h
      obtain rfl : i = 0 := by omega
      subst e
      simp
    · rw [if_neg e] at h
      split at h
      · omega
      · obtain ⟨j, rfl⟩ : ∃ j, i = j + 1 := ⟨i - 1, by omega⟩
        have := idx_at (c := c) (l := t) (i := j) (by omega) (by simp at hi; omega)
        simp only [List.take_succ_cons, List.drop_succ_cons, List.cons_append]
        rw [← this]
theorem repK_t2b : ∀ (f : Nat) (l : List UInt8), l.length < f → replaceK [9] [32] (countFrom [9] f l) l = l.map t2b
  | 0, l, h => absurd h (Nat.not_lt_zero _)
  | f + 1, l, h => by
    rw [countFrom]
    rcases idx_spl 9 l with ⟨h1, _, h3⟩ | ⟨i, h1, h2, _, h4⟩
    · rw [if_pos (by simp [h1])]
      have : ∀ b ∈ l, b ≠ 9 := fun b hb => tw_ne (l := l) (by rw [h3]; exact hb)
      rw [map_no this]
      rfl
    · have e : (index l [9]).toNat = i := by omega
      have hn : ∀ b ∈ l.take i, b ≠ 9 := fun b hb => tw_ne (l := l) (by rw [h4]; exact hb)
      rw [if_neg (by simp [h1]), Nat.add_comm 1, replaceK_hit _ _ _ _ i h1, e]
      simp only [List.length_singleton]
      rw [repK_t2b f (l.drop (i + 1)) (by rw [List.length_drop]; omega)]
      conv => rhs; rw [idx_at h1 h2]
      rw [List.map_append, map_no hn, List.map_cons]
      simp [t2b]
theorem rep_t2b (l : List UInt8) : replaceAll l [9] [32] = l.map t2b := by
  unfold replaceAll replace replaceNum
  rw [if_neg (by decide), if_pos (.inl (by decide))]
  exact repK_t2b _ l (Nat.lt_succ_self _)
theorem splitK_first (c : UInt8) (l : List UInt8) (k : Nat) (hk : (l = [] ∧ k = 0) ∨ k = 1) : ∃ r, splitK [c] 0 k l = l.takeWhile (· != c) :: r := by
  rcases hk with ⟨rfl, rfl⟩ | rfl
  · exact ⟨[], rfl⟩
  · rcases idx_spl c l with ⟨h1, _, h3⟩ | ⟨i, h1, _, _, h4⟩
    · exact ⟨[], by rw [splitK, if_pos (by simp [h1]), h3]⟩
    · have e : (index l [c]).toNat = i := by omega
      exact ⟨_, by rw [splitK, if_neg (by simp [h1]), e, h4, Nat.add_zero]⟩
theorem splitB_first (sep : ByteArray) (c : UInt8) (hc : sep.data.toList = [c]) (s : ByteArray) : ∃ y r, splitB sep 0 (min 2 (s.size + 1) - 1) s = y :: r ∧ y.data.toList = s.data.toList.takeWhile (· != c) := by
  have hd := splitB_data sep 0 (min 2 (s.size + 1) - 1) s
  rw [hc] at hd
  have hz : s.size = s.data.toList.length := by show s.data.size = _; simp
  obtain ⟨r, hr⟩ := splitK_first c s.data.toList (min 2 (s.size + 1) - 1) (by
    rcases Nat.eq_zero_or_pos s.size with h0 | h0
    · exact .inl ⟨List.eq_nil_of_length_eq_zero (by omega), by omega⟩
    · exact .inr (by omega))
  rw [hr] at hd
  cases hs : splitB sep 0 (min 2 (s.size + 1) - 1) s with
  | nil => rw [hs] at hd; cases hd
  | cons y t =>
    rw [hs] at hd
    simp only [List.map_cons, List.cons.injEq] at hd
    exact ⟨y, t, rfl, hd.1⟩
end Go.Proofs.YtpnjnedfcdppaaaGreatDoor
