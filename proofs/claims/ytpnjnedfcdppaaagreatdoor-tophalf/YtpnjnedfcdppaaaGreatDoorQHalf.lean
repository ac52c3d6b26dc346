/-
  KEYS BY HALVES: what a set of keys is by its ends, its highs and its parts; put and cut: plain mathematics. Nothing of the program.
-/
import Derived.Test.YtpnjnedfcdppaaaGreatDoorQNear
namespace Go.Proofs.YtpnjnedfcdppaaaGreatDoor

/-- how many keys a set of level n has room for -/
def qq : Nat → Int
  | 0 => 2
  | n + 1 => qq n * qq n
/-- how many bits a key of level n has -/
def qbt : Nat → Nat
  | 0 => 1
  | n + 1 => 2 * qbt n
/-- how many bits each half has -/
def qhb : Nat → Nat
  | 0 => 0
  | n + 1 => qbt n
theorem qq_two : ∀ n, 2 ≤ qq n
  | 0 => by decide
  | n + 1 => by
    have := qq_two n
    show 2 ≤ qq n * qq n
    have h2 : 2 * 2 ≤ qq n * qq n := Int.mul_le_mul this this (by omega) (by omega)
    omega
theorem qq_pos (n : Nat) : 0 < qq n := by have := qq_two n; omega
theorem qq4 : qq 4 = 65536 := by decide
theorem qbt4 : qbt 4 = 16 := by decide
theorem qq_le {n : Nat} (h : n ≤ 3) : qq n ≤ 256 := by
  match n, h with
  | 0, _ => decide
  | 1, _ => decide
  | 2, _ => decide
  | 3, _ => decide
theorem qq_le4 {n : Nat} (h : n ≤ 4) : qq n ≤ 65536 := by
  match n, h with
  | 0, _ => decide
  | 1, _ => decide
  | 2, _ => decide
  | 3, _ => decide
  | 4, _ => decide
theorem qhb_half (n : Nat) : qbt n / 2 = qhb n := by
  cases n with
  | zero => rfl
  | succ n => show 2 * qbt n / 2 = qbt n; omega
theorem qbt_le {n : Nat} (h : n ≤ 4) : qbt n ≤ 16 := by
  match n, h with
  | 0, _ => decide
  | 1, _ => decide
  | 2, _ => decide
  | 3, _ => decide
  | 4, _ => decide
theorem qbt_pos : ∀ n, 1 ≤ qbt n
  | 0 => Nat.le_refl _
  | n + 1 => by have := qbt_pos n; show 1 ≤ 2 * qbt n; omega

abbrev KS := Int → Prop
def QPut (S : KS) (k : Int) : KS := fun x => S x ∨ x = k
def QCut (S : KS) (k : Int) : KS := fun x => S x ∧ x ≠ k
def QEnds (S : KS) (lo hi : Int) : Prop := S lo ∧ S hi ∧ ∀ x, S x → lo ≤ x ∧ x ≤ hi
def QHi (q : Int) (R : KS) : KS := fun h => ∃ x, R x ∧ x / q = h
def QLo (q : Int) (R : KS) (h : Int) : KS := fun l => ∃ x, R x ∧ x / q = h ∧ x % q = l
def QBd (q : Int) (S : KS) : Prop := ∀ x, S x → 0 ≤ x ∧ x < q
theorem ks_ext {S S' : KS} (h : ∀ x, S x ↔ S' x) : S = S' := funext fun x => propext (h x)

theorem qsame {q x y : Int} (h1 : x / q = y / q) (h2 : x % q = y % q) : x = y := by
  have a := Int.emod_add_mul_ediv x q
  have b := Int.emod_add_mul_ediv y q
  rw [h1, h2] at a
  exact a.symm.trans b
theorem qlo_iff {q : Int} {R : KS} {x : Int} : QLo q R (x / q) (x % q) ↔ R x := by
  constructor
  · rintro ⟨y, hy, h1, h2⟩
    rw [← qsame h1 h2]
    exact hy
  · exact fun h => ⟨x, h, rfl, rfl⟩
theorem qlo_bd {q : Int} (hq : 0 < q) {R : KS} (h : Int) : QBd q (QLo q R h) := by
  rintro l ⟨x, _, _, rfl⟩
  exact ⟨Int.emod_nonneg x (by omega), Int.emod_lt_of_pos x hq⟩
theorem qdiv_bd {q x : Int} (hq : 0 < q) (h0 : 0 ≤ x) (h1 : x < q * q) : 0 ≤ x / q ∧ x / q < q :=
  ⟨Int.ediv_nonneg h0 (by omega), (Int.ediv_lt_iff_lt_mul hq).2 h1⟩
theorem qmod_bd {q : Int} (hq : 0 < q) (x : Int) : 0 ≤ x % q ∧ x % q < q := ⟨Int.emod_nonneg x (by omega), Int.emod_lt_of_pos x hq⟩
theorem qhi_bd {q : Int} (hq : 0 < q) {R : KS} (hR : QBd (q * q) R) : QBd q (QHi q R) := by
  rintro h ⟨x, hx, rfl⟩
  exact qdiv_bd hq (hR x hx).1 (hR x hx).2
/-- a key from its halves -/
theorem qlo_key {q : Int} (hq : 0 < q) {R : KS} {h l : Int} (hl : QLo q R h l) : R (h * q + l) ∧ (h * q + l) / q = h ∧ (h * q + l) % q = l := by
  obtain ⟨x, hx, h1, h2⟩ := hl
  have hb := qmod_bd hq x
  have e := halves_of (q := q) (h := h) (lo := l) hq (by omega) (by omega)
  have : h * q + l = x := qsame (e.1.trans h1.symm) (e.2.trans h2.symm)
  exact ⟨this ▸ hx, e⟩
theorem qhi_lo {q : Int} {R : KS} {h : Int} : QHi q R h ↔ ∃ l, QLo q R h l := by
  constructor
  · rintro ⟨x, hx, h1⟩
    exact ⟨x % q, x, hx, h1, rfl⟩
  · rintro ⟨l, x, hx, h1, _⟩
    exact ⟨x, hx, h1⟩
/-! put -/
theorem qput_bd {q : Int} {S : KS} (h : QBd q S) {k : Int} (h0 : 0 ≤ k) (h1 : k < q) : QBd q (QPut S k) := by
  rintro x (hx | rfl)
  · exact h x hx
  · exact ⟨h0, h1⟩
theorem qput_mem {S : KS} {k : Int} (h : S k) : QPut S k = S := ks_ext fun x => ⟨fun hx => by rcases hx with hx | rfl <;> assumption, .inl⟩
theorem qhi_put {q : Int} {R : KS} {k : Int} : QHi q (QPut R k) = QPut (QHi q R) (k / q) := by
  refine ks_ext fun h => ⟨?_, ?_⟩
  · rintro ⟨x, hx | rfl, rfl⟩
    · exact .inl ⟨x, hx, rfl⟩
    · exact .inr rfl
  · rintro (⟨x, hx, rfl⟩ | rfl)
    · exact ⟨x, .inl hx, rfl⟩
    · exact ⟨k, .inr rfl, rfl⟩
theorem qlo_put {q : Int} {R : KS} {k : Int} : QLo q (QPut R k) (k / q) = QPut (QLo q R (k / q)) (k % q) := by
  refine ks_ext fun l => ⟨?_, ?_⟩
  · rintro ⟨x, hx | rfl, h1, rfl⟩
    · exact .inl ⟨x, hx, h1, rfl⟩
    · exact .inr rfl
  · rintro (⟨x, hx, h1, rfl⟩ | rfl)
    · exact ⟨x, .inl hx, h1, rfl⟩
    · exact ⟨k, .inr rfl, rfl, rfl⟩
theorem qlo_put_ne {q : Int} {R : KS} {k h : Int} (hne : h ≠ k / q) : QLo q (QPut R k) h = QLo q R h := by
  refine ks_ext fun l => ⟨?_, ?_⟩
  · rintro ⟨x, hx | rfl, h1, rfl⟩
    · exact ⟨x, hx, h1, rfl⟩
    · exact absurd h1.symm hne
  · rintro ⟨x, hx, h1, rfl⟩
    exact ⟨x, .inl hx, h1, rfl⟩
/-! cut -/
theorem qcut_bd {q : Int} {S : KS} (h : QBd q S) {k : Int} : QBd q (QCut S k) := fun x hx => h x hx.1
theorem qlo_cut {q : Int} {R : KS} {k : Int} : QLo q (QCut R k) (k / q) = QCut (QLo q R (k / q)) (k % q) := by
  refine ks_ext fun l => ⟨?_, ?_⟩
  · rintro ⟨x, ⟨hx, hne⟩, h1, rfl⟩
    exact ⟨⟨x, hx, h1, rfl⟩, fun e => hne (qsame h1 e)⟩
  · rintro ⟨⟨x, hx, h1, rfl⟩, hne⟩
    exact ⟨x, ⟨hx, fun e => hne (by rw [e])⟩, h1, rfl⟩
theorem qlo_cut_ne {q : Int} {R : KS} {k h : Int} (hne : h ≠ k / q) : QLo q (QCut R k) h = QLo q R h := by
  refine ks_ext fun l => ⟨?_, ?_⟩
  · rintro ⟨x, ⟨hx, _⟩, h1, rfl⟩
    exact ⟨x, hx, h1, rfl⟩
  · rintro ⟨x, hx, h1, rfl⟩
    exact ⟨x, ⟨hx, fun e => hne (by rw [← h1, e])⟩, h1, rfl⟩
/-- there is another one with these high bits: the highs stay -/
theorem qhi_cut_some {q : Int} {R : KS} {k l : Int} (h : QCut (QLo q R (k / q)) (k % q) l) : QHi q (QCut R k) = QHi q R := by
  rw [← qlo_cut] at h
  refine ks_ext fun y => ⟨?_, ?_⟩
  · rintro ⟨x, ⟨hx, _⟩, rfl⟩
    exact ⟨x, hx, rfl⟩
  · rintro ⟨x, hx, rfl⟩
    by_cases hk : x = k
    · subst hk
      exact qhi_lo.2 ⟨l, h⟩
    · exact ⟨x, ⟨hx, hk⟩, rfl⟩
theorem qhi_cut_none {q : Int} {R : KS} {k : Int} (h : ∀ l, ¬ QCut (QLo q R (k / q)) (k % q) l) : QHi q (QCut R k) = QCut (QHi q R) (k / q) := by
  have h' : ∀ l, ¬ QLo q (QCut R k) (k / q) l := fun l => by rw [qlo_cut]; exact h l
  refine ks_ext fun y => ⟨?_, ?_⟩
  · rintro ⟨x, hx, rfl⟩
    refine ⟨⟨x, hx.1, rfl⟩, fun e => ?_⟩
    exact h' (x % q) ⟨x, hx, e, rfl⟩
  · rintro ⟨⟨x, hx, rfl⟩, hne⟩
    exact ⟨x, ⟨hx, fun e => hne (by rw [e])⟩, rfl⟩
/-! ends and the rest -/
theorem qends_one {S : KS} {lo hi lo' hi' : Int} (h : QEnds S lo hi) (h' : QEnds S lo' hi') : lo = lo' ∧ hi = hi' := by
  have a := h.2.2 _ h'.1
  have b := h'.2.2 _ h.1
  have c := h.2.2 _ h'.2.1
  have d := h'.2.2 _ h.2.1
  omega
/-- put below all -/
theorem qput_low {S : KS} {lo hi k : Int} (h : QEnds S lo hi) (hk : k < lo) : QEnds (QPut S k) k hi ∧ QCut (QPut S k) k = QPut (QCut S lo) lo := by
  have h1 := h.2.2 _ h.2.1
  refine ⟨⟨.inr rfl, .inl h.2.1, ?_⟩, ks_ext fun x => ⟨?_, ?_⟩⟩
  · rintro x (hx | rfl)
    · have := h.2.2 x hx; omega
    · omega
  · rintro ⟨hx | rfl, hne⟩
    · by_cases e : x = lo
      · exact .inr e
      · exact .inl ⟨hx, e⟩
    · exact absurd rfl hne
  · rintro (⟨hx, _⟩ | rfl)
    · have := h.2.2 x hx
      exact ⟨.inl hx, by omega⟩
    · exact ⟨.inl h.1, by omega⟩
/-- put among the rest -/
theorem qput_high {S : KS} {lo hi k : Int} (h : QEnds S lo hi) (hk : lo < k) : QEnds (QPut S k) lo (if hi < k then k else hi) ∧ QCut (QPut S k) lo = QPut (QCut S lo) k := by
  refine ⟨⟨.inl h.1, ?_, ?_⟩, ks_ext fun x => ⟨?_, ?_⟩⟩
  · split
    · exact .inr rfl
    · exact .inl h.2.1
  · rintro x (hx | rfl)
    · have := h.2.2 x hx; split <;> omega
    · split <;> omega
  · rintro ⟨hx | rfl, hne⟩
    · exact .inl ⟨hx, hne⟩
    · exact .inr rfl
  · rintro (⟨hx, hne⟩ | rfl)
    · exact ⟨.inl hx, hne⟩
    · exact ⟨.inr rfl, by omega⟩
theorem qput_new (k : Int) {S : KS} (h : ∀ x, ¬ S x) : QEnds (QPut S k) k k ∧ ∀ x, ¬ QCut (QPut S k) k x := by
  refine ⟨⟨.inr rfl, .inr rfl, ?_⟩, ?_⟩
  · rintro x (hx | rfl)
    · exact absurd hx (h x)
    · omega
  · rintro x ⟨hx | rfl, hne⟩
    · exact h x hx
    · exact hne rfl
/-- the least one goes, the least of the rest comes up -/
theorem qcut_low {S : KS} {lo hi y : Int} (h : QEnds S lo hi) {z : Int} (hy : QEnds (QCut S lo) y z) : QEnds (QCut S lo) y hi ∧ z = hi ∧ QCut (QCut S lo) y = QCut (QCut S lo) y := by
  have h1 := h.2.2 _ hy.1.1
  have hne : lo ≠ hi := fun e => hy.1.2 (by omega)
  have h2 : QCut S lo hi := ⟨h.2.1, fun e => hne e.symm⟩
  have h3 := hy.2.2 hi h2
  have h4 := h.2.2 z hy.2.1.1
  exact ⟨⟨hy.1, h2, fun x hx => ⟨(hy.2.2 x hx).1, (h.2.2 x hx.1).2⟩⟩, by omega, rfl⟩
theorem qcut_rest {S : KS} {lo k : Int} : QCut (QCut S k) lo = QCut (QCut S lo) k := ks_ext fun x => ⟨fun h => ⟨⟨h.1.1, h.2⟩, h.1.2⟩, fun h => ⟨⟨h.1.1, h.2⟩, h.1.2⟩⟩
/-- one of the rest goes that isn't the greatest one -/
theorem qcut_mid {S : KS} {lo hi k : Int} (h : QEnds S lo hi) (h1 : k ≠ lo) (h2 : k ≠ hi) : QEnds (QCut S k) lo hi := ⟨⟨h.1, fun e => h1 e.symm⟩, ⟨h.2.1, fun e => h2 e.symm⟩, fun x hx => h.2.2 x hx.1⟩
/-- the greatest one goes, the rest has none: what is left is the least one -/
theorem qcut_none {S : KS} {lo hi k : Int} (h : QEnds S lo hi) (h1 : k ≠ lo) (h2 : ∀ x, ¬ QCut (QCut S lo) k x) : QEnds (QCut S k) lo lo := by
  refine ⟨⟨h.1, fun e => h1 e.symm⟩, ⟨h.1, fun e => h1 e.symm⟩, fun x hx => ?_⟩
  have : x = lo := Classical.byContradiction fun e => h2 x ⟨⟨hx.1, e⟩, hx.2⟩
  omega
theorem qcut_some {S : KS} {lo hi k y z : Int} (h : QEnds S lo hi) (h1 : k ≠ lo) (h2 : QEnds (QCut (QCut S lo) k) y z) : QEnds (QCut S k) lo z := by
  refine ⟨⟨h.1, fun e => h1 e.symm⟩, ⟨h2.2.1.1.1, h2.2.1.2⟩, fun x hx => ?_⟩
  refine ⟨(h.2.2 x hx.1).1, ?_⟩
  by_cases e : x = lo
  · have := h.2.2 z h2.2.1.1.1
    omega
  · exact (h2.2.2 x ⟨⟨hx.1, e⟩, hx.2⟩).2
/-- the ends of the rest, by its highs and the parts -/
theorem qrest_low {q : Int} (hq : 0 < q) {R : KS} {h1 h2 l1 l2 : Int} (hh : QEnds (QHi q R) h1 h2) (hl : QEnds (QLo q R h1) l1 l2) : R (h1 * q + l1) ∧ ∀ x, R x → h1 * q + l1 ≤ x := by
  obtain ⟨a, b, c⟩ := qlo_key hq hl.1
  refine ⟨a, fun x hx => ?_⟩
  have e1 := (hh.2.2 (x / q) ⟨x, hx, rfl⟩).1
  have hx2 := halves (q := q) (x := x) hq
  by_cases e : x / q = h1
  · have := (hl.2.2 (x % q) ⟨x, hx, e, rfl⟩).1
    rw [e] at hx2
    omega
  · have : h1 * q + l1 < x := half_lt hq (by rw [b]; omega)
    omega
theorem qrest_high {q : Int} (hq : 0 < q) {R : KS} {h1 h2 l1 l2 : Int} (hh : QEnds (QHi q R) h1 h2) (hl : QEnds (QLo q R h2) l1 l2) : R (h2 * q + l2) ∧ ∀ x, R x → x ≤ h2 * q + l2 := by
  obtain ⟨a, b, c⟩ := qlo_key hq hl.2.1
  refine ⟨a, fun x hx => ?_⟩
  have e1 := (hh.2.2 (x / q) ⟨x, hx, rfl⟩).2
  have hx2 := halves (q := q) (x := x) hq
  by_cases e : x / q = h2
  · have := (hl.2.2 (x % q) ⟨x, hx, e, rfl⟩).2
    rw [e] at hx2
    omega
  · have : x < h2 * q + l2 := half_lt hq (by rw [b]; omega)
    omega
theorem qhi_none {q : Int} {R : KS} (h : ∀ y, ¬ QHi q R y) : ∀ x, ¬ R x := fun x hx => h (x / q) ⟨x, hx, rfl⟩

/-! next -/
/-- among a set of bits -/
theorem qnx_bit {S : KS} {lo hi k : Int} (h : QEnds S lo hi) (hb : QBd 2 S) (h1 : lo ≤ k) (h2 : k < hi) : NxP S k hi := by
  have a := hb lo h.1
  have b := hb hi h.2.1
  exact ⟨h.2.1, h2, fun z hz hk => by have := hb z hz; omega⟩
theorem qpv_bit {S : KS} {lo hi k : Int} (h : QEnds S lo hi) (hb : QBd 2 S) (h1 : lo < k) (h2 : k ≤ hi) : PvP S k lo := by
  have a := hb lo h.1
  have b := hb hi h.2.1
  exact ⟨h.1, h1, fun z hz hk => by have := hb z hz; omega⟩
theorem qnx_below {S : KS} {lo hi k : Int} (h : QEnds S lo hi) (h1 : k < lo) : NxP S k lo := ⟨h.1, h1, fun z hz _ => (h.2.2 z hz).1⟩
theorem qpv_above {S : KS} {lo hi k : Int} (h : QEnds S lo hi) (h1 : hi < k) : PvP S k hi := ⟨h.2.1, h1, fun z hz _ => (h.2.2 z hz).2⟩
theorem qnx_over {S : KS} {lo hi k : Int} (h : QEnds S lo hi) (h1 : hi ≤ k) : ∀ z, S z → ¬ k < z := fun z hz => by have := h.2.2 z hz; omega
theorem qpv_under {S : KS} {lo hi k : Int} (h : QEnds S lo hi) (h1 : k ≤ lo) : ∀ z, S z → ¬ z < k := fun z hz => by have := h.2.2 z hz; omega
/-- in the same part -/
theorem qnx_part {q : Int} (hq : 0 < q) {S : KS} {lo hi k l : Int} (h : QEnds S lo hi) (h1 : lo ≤ k) (hn : NxP (QLo q (QCut S lo) (k / q)) (k % q) l) : NxP S k (k / q * q + l) := by
  obtain ⟨a, b, c⟩ := qlo_key hq hn.1
  have hx := halves (q := q) (x := k) hq
  have hl := hn.2.1
  refine nx_in hq a.1 b (by omega) fun z hz hzq hkz => ?_
  have hz2 := halves (q := q) (x := z) hq
  have := hn.2.2 (z % q) ⟨z, ⟨hz, by omega⟩, hzq, rfl⟩ (by rw [hzq] at hz2; omega)
  rw [hzq] at hz2
  omega
theorem qpv_part {q : Int} (hq : 0 < q) {S : KS} {lo hi k l : Int} (h : QEnds S lo hi) (hn : PvP (QLo q (QCut S lo) (k / q)) (k % q) l) : PvP S k (k / q * q + l) := by
  obtain ⟨a, b, c⟩ := qlo_key hq hn.1
  have hx := halves (q := q) (x := k) hq
  have hl := hn.2.1
  refine pv_in hq a.1 b (by omega) fun z hz hzq hkz => ?_
  have hz2 := halves (q := q) (x := z) hq
  by_cases e : z = lo
  · have := (h.2.2 _ a.1).1
    omega
  · have := hn.2.2 (z % q) ⟨z, ⟨hz, e⟩, hzq, rfl⟩ (by rw [hzq] at hz2; omega)
    rw [hzq] at hz2
    omega
/-- in the next part: there is one -/
theorem qnx_has {q : Int} (hq : 0 < q) {S : KS} {lo hi k : Int} (h : QEnds S lo hi) (h1 : lo ≤ k) (h2 : k < hi) (hn : ∀ z, QLo q (QCut S lo) (k / q) z → ¬ k % q < z) : QHi q (QCut S lo) (hi / q) ∧ k / q < hi / q := by
  have hr : QCut S lo hi := ⟨h.2.1, by omega⟩
  refine ⟨⟨hi, hr, rfl⟩, ?_⟩
  have h3 : k / q ≤ hi / q := Int.ediv_le_ediv hq (by omega)
  have hne : k / q ≠ hi / q := fun e => by
    have := hn (hi % q) ⟨hi, hr, e.symm, rfl⟩
    have a := halves (q := q) (x := k) hq
    have b := halves (q := q) (x := hi) hq
    rw [← e] at b
    omega
  omega
theorem qnx_far {q : Int} (hq : 0 < q) {S : KS} {lo k y l1 l2 : Int} (h1 : lo ≤ k) (hn : ∀ z, QLo q (QCut S lo) (k / q) z → ¬ k % q < z) (hy : NxP (QHi q (QCut S lo)) (k / q) y) (hl : QEnds (QLo q (QCut S lo) y) l1 l2) : NxP S k (y * q + l1) := by
  obtain ⟨a, b, c⟩ := qlo_key hq hl.1
  refine nx_out hq (fun z hz e hkz => ?_) a.1 (by rw [b]; exact hy.2.1) (fun z hz hkz => ?_) (fun z hz e => ?_)
  · refine hn (z % q) ⟨z, ⟨hz, by omega⟩, e, rfl⟩ ?_
    have a := halves (q := q) (x := k) hq
    have b := halves (q := q) (x := z) hq
    rw [e] at b
    omega
  · rw [b]
    have h3 := half_lt hq hkz
    exact hy.2.2 (z / q) ⟨z, ⟨hz, by omega⟩, rfl⟩ hkz
  · rw [b] at e
    have h3 : k < z := half_lt hq (by rw [e]; exact hy.2.1)
    have h2 := (hl.2.2 (z % q) ⟨z, ⟨hz, by omega⟩, e, rfl⟩).1
    have b := halves (q := q) (x := z) hq
    rw [e] at b
    omega
theorem qpv_far {q : Int} (hq : 0 < q) {S : KS} {lo hi k y l1 l2 : Int} (h : QEnds S lo hi) (hn : ∀ z, QLo q (QCut S lo) (k / q) z → ¬ z < k % q) (hy : PvP (QHi q (QCut S lo)) (k / q) y) (hl : QEnds (QLo q (QCut S lo) y) l1 l2) : PvP S k (y * q + l2) := by
  obtain ⟨a, b, c⟩ := qlo_key hq hl.2.1
  have hlt : y * q + l2 < k := half_lt hq (by rw [b]; exact hy.2.1)
  refine ⟨a.1, hlt, fun z hz hkz => ?_⟩
  by_cases e : z = lo
  · rw [e]; exact (h.2.2 _ a.1).1
  · have hzr : QCut S lo z := ⟨hz, e⟩
    have hzk : z / q ≤ k / q := Int.ediv_le_ediv hq (by omega)
    have hz2 := halves (q := q) (x := z) hq
    have hk2 := halves (q := q) (x := k) hq
    by_cases e2 : z / q = k / q
    · have := hn (z % q) ⟨z, hzr, e2, rfl⟩
      rw [e2] at hz2
      omega
    · have h3 := hy.2.2 (z / q) ⟨z, hzr, rfl⟩ (by omega)
      by_cases e3 : z / q = y
      · have := (hl.2.2 (z % q) ⟨z, hzr, e3, rfl⟩).2
        rw [e3] at hz2
        omega
      · exact Int.le_of_lt (half_lt hq (by rw [b]; omega))
theorem qpv_last {q : Int} (hq : 0 < q) {S : KS} {lo hi k : Int} (h : QEnds S lo hi) (h1 : lo < k) (hn : ∀ z, QLo q (QCut S lo) (k / q) z → ¬ z < k % q) (hy : ∀ z, QHi q (QCut S lo) z → ¬ z < k / q) : PvP S k lo := by
  refine ⟨h.1, h1, fun z hz hkz => ?_⟩
  apply Classical.byContradiction
  intro hlt
  have hzr : QCut S lo z := ⟨hz, by omega⟩
  have hzk : z / q ≤ k / q := Int.ediv_le_ediv hq (by omega)
  have a := hy (z / q) ⟨z, hzr, rfl⟩
  have e : z / q = k / q := by omega
  have := hn (z % q) ⟨z, hzr, e, rfl⟩
  have hz2 := halves (q := q) (x := z) hq
  have hk2 := halves (q := q) (x := k) hq
  rw [e] at hz2
  omega

end Go.Proofs.YtpnjnedfcdppaaaGreatDoor
