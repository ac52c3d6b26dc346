/-
  Joined texts: YtpnjnedfcdppaaaGreatDoorKOne0, YtpnjnedfcdppaaaGreatDoorKRun.
-/
import Derived.Test.YtpnjnedfcdppaaaGreatDoorTKeysAll
import Derived.Test.YtpnjnedfcdppaaaGreatDoorZPureAll
import Derived.Test.YtpnjnedfcdppaaaGreatDoorRunAAll
import Derived.Test.YtpnjnedfcdppaaaGreatDoorKRowsAll
/-
  BY OTHER OPS TO THE SAME KEYS, as lists. Nothing is walked here.
-/
namespace Go.Proofs.YtpnjnedfcdppaaaGreatDoor

def foldL (ops : List OP) (l : PL) : PL := ops.foldl (fun l o => doL l o.1 o.2.1 o.2.2) l
theorem step_fst (ops : List OP) : ∀ s : PL × List An, (ops.foldl stepR s).1 = foldL ops s.1 := by
  induction ops with
  | nil => intro s; rfl
  | cons o t ih => intro s; rw [List.foldl_cons, ih]; rfl
theorem runR_fst (ops : List OP) : (runR ops).1 = foldL ops [] := step_fst ops ([], [])
theorem foldL_append (a b : List OP) (l : PL) : foldL (a ++ b) l = foldL b (foldL a l) := by simp [foldL, List.foldl_append]
theorem doL_grow (l : PL) (kind key val : Int) : (doL l kind key val).length ≤ l.length + 1 := by
  unfold doL
  by_cases hc : chk l = 0
  · rw [if_neg (by simpa using hc)]
    split
    · omega
    · split
      · unfold putL
        split
        · simp
        · split
          · omega
          · have := cnt_le l key
            simp
            omega
      · split
        · unfold cutL
          split
          · simp
            omega
          · omega
        · omega
  · rw [if_pos hc]; simp
theorem foldL_len (ops : List OP) : ∀ l : PL, (foldL ops l).length ≤ l.length + ops.length := by
  induction ops with
  | nil => intro l; simp [foldL]
  | cons o t ih =>
    intro l
    have h1 := ih (doL l o.1 o.2.1 o.2.2)
    have h2 := doL_grow l o.1 o.2.1 o.2.2
    show (foldL t (doL l o.1 o.2.1 o.2.2)).length ≤ _
    rw [List.length_cons]
    omega
theorem runR_grow (ops : List OP) : (runR ops).1.length ≤ ops.length := by
  rw [runR_fst]
  simpa using foldL_len ops []

def cutsOf (ks : List Int) : List OP := ks.map fun k => (3, k, 0)
def putsOf (ks : List Int) : List OP := ks.map fun k => (1, k, 0)
theorem srt_pw : ∀ (l : PL) (lo : Int), Srt lo l → (kys l).Pairwise (· < ·) ∧ ∀ x ∈ kys l, lo ≤ x ∧ x ≤ 1000000
  | [], _, _ => ⟨List.Pairwise.nil, fun x h => by cases h⟩
  | p :: t, lo, h => by
    obtain ⟨h1, h2, h3⟩ := h
    obtain ⟨h4, h5⟩ := srt_pw t (p.1 + 1) h3
    refine ⟨List.Pairwise.cons (fun x hx => ?_) h4, fun x hx => ?_⟩
    · have := h5 x hx
      omega
    · rcases List.mem_cons.1 hx with rfl | hx
      · exact ⟨h1, h2⟩
      · have := h5 x hx
        omega
theorem rise_kys {l : PL} (h : chk l = 0) : Rise (kys l) := by
  obtain ⟨h1, h2⟩ := (chk_zero l).1 h
  obtain ⟨h3, h4⟩ := srt_pw l 0 h2
  exact ⟨by rw [kys_len]; exact h1, h3, h4⟩
theorem srt_of : ∀ (t : List Int) (lo : Int), t.Pairwise (· < ·) → (∀ x ∈ t, lo ≤ x ∧ x ≤ 1000000) → Srt lo (t.map fun k => (k, (0 : Int)))
  | [], _, _, _ => trivial
  | k :: t, lo, hp, hb => by
    have h1 := hb k (by simp)
    refine ⟨h1.1, h1.2, srt_of t (k + 1) (List.pairwise_cons.1 hp).2 fun x hx => ?_⟩
    have h2 := (List.pairwise_cons.1 hp).1 x hx
    have h3 := hb x (by simp [hx])
    omega
theorem cuts_all : ∀ (l : PL) (lo : Int), 0 ≤ lo → Srt lo l → l.length ≤ 200 → foldL (cutsOf (kys l)) l = []
  | [], _, _, _, _ => rfl
  | p :: t, lo, h0, hs, hl => by
    have hc : chk (p :: t) = 0 := (chk_zero _).2 ⟨hl, hs.mono h0⟩
    obtain ⟨h1, h2, h3⟩ := hs
    have hk : keyB p.1 = true := by simp [keyB]; omega
    have e : doL (p :: t) 3 p.1 0 = t := by
      rw [doL_cut hc, hk, if_pos rfl, cutL_eq]
      show (if p.1 < p.1 then _ else _) = t
      rw [if_neg (by omega), if_pos rfl]
    show foldL (cutsOf (kys t)) (doL (p :: t) 3 p.1 0) = []
    rw [e]
    exact cuts_all t (p.1 + 1) (by omega) h3 (by rw [List.length_cons] at hl; omega)
theorem puts_all : ∀ (ks : List Int), Rise ks → foldL (putsOf ks.reverse) [] = ks.map fun k => (k, (0 : Int))
  | [], _ => rfl
  | k :: t, h => by
    have hp := List.pairwise_cons.1 h.pw
    have hl : (k :: t).length ≤ 200 := h.len
    rw [List.length_cons] at hl
    have ht : Rise t := ⟨by omega, hp.2, fun x hx => h.bd x (by simp [hx])⟩
    have hkb := h.bd k (by simp)
    have hs : Srt (k + 1) (t.map fun k => (k, (0 : Int))) := srt_of t (k + 1) hp.2 fun x hx => by
      have := hp.1 x hx
      have := h.bd x (by simp [hx])
      omega
    have hc : chk (t.map fun k => (k, (0 : Int))) = 0 := (chk_zero _).2 ⟨by simp; omega, hs.mono (by omega)⟩
    have hk : keyB k = true := by simp [keyB]; omega
    rw [List.reverse_cons]
    unfold putsOf
    rw [List.map_append, foldL_append]
    have ih := puts_all t ht
    unfold putsOf at ih
    rw [ih]
    show doL _ 1 k 0 = _
    rw [doL_put hc, hk, if_pos rfl, putL_eq, if_pos (.inr (by simp; omega)), ins_low _ k 0 (k + 1) hs (by omega)]
    rfl
theorem kys_zero (ks : List Int) : kys (ks.map fun k => (k, (0 : Int))) = ks := by
  unfold kys
  rw [List.map_map]
  exact List.map_id'' (fun _ => rfl) ks
theorem kys_final (mo : List OP) (ks : List Int) (hR : Rise ks) : kys (runR (mo ++ cutsOf (kys (runR mo).1) ++ putsOf ks.reverse)).1 = ks := by
  obtain ⟨h1, h2⟩ := (chk_zero _).1 (chk_runR mo)
  rw [runR_fst, foldL_append, foldL_append, ← runR_fst, cuts_all _ 0 (Int.le_refl _) h2 h1, puts_all ks hR, kys_zero]
end Go.Proofs.YtpnjnedfcdppaaaGreatDoor

/-
  skip.Run.
-/
namespace Go.Proofs.YtpnjnedfcdppaaaGreatDoor
open Go.RowKit

/-- rows, answers, and what went wrong -/
def RetRun3 (L : List (List Int)) (a : List An) (er : Int) (w : World) (e : Ending) (w' : World) : Prop :=
  ∃ A m c A' n' c', e = .returned (.tuple #[.slice A m c, .slice A' n' c', I er]) ∧ RI w' A m c L ∧ AS w' A' n' c' a ∧ Below w.heap.size w w'

set_option maxRecDepth 100000 in
set_option maxHeartbeats 1000000 in
theorem RunS_large (A : Option Addr) (n c : Nat) (w : World) (hn : 300 < n) (hm : n ≤ 9223372036854775807) :
    Calls Tryz.prog 20 #[.slice A n c] w (RetRun3 [] [] 2 w) := by
  have HC := Lib.hid (Run_large A n c w hn hm)
  go_enter Tryz.func20, Tryz.ntmps20
  go_wp2_with fail
  refine HC.out.mono ?_
  rintro e w1 ⟨A1, n1, c1, A2, n2, c2, rfl, hps, has, hb1⟩
  have HB1 := Lib.hid hb1
  clear hps has hb1
  go_wp2
  go_ret3
  exact ⟨none, 0, 0, none, 0, 0, rfl, RI.none_, ⟨rfl, Rd.none_⟩, HB1.out⟩

set_option maxRecDepth 100000 in
set_option maxHeartbeats 2000000 in
theorem RunS_any (A : Option Addr) (n c : Nat) (ops : List OP) (w : World) (h : OS w A n c ops) (hn : n ≤ 300) (hl : (runR ops).1.length ≤ 200) (hT : Tb w) :
    Calls Tryz.prog 20 #[.slice A n c] w (RetRun3 (rowsL (kys (runR ops).1)) (runR ops).2 0 w) := by
  have HC := Lib.hid (Run_any A n c ops w h hn)
  have HT := Lib.hid hT
  obtain ⟨l, hll⟩ : ∃ l, (runR ops).1 = l := ⟨_, rfl⟩
  obtain ⟨an, han⟩ : ∃ an, (runR ops).2 = an := ⟨_, rfl⟩
  rw [hll] at HC hl ⊢
  rw [han] at HC ⊢
  clear h hT hll han
  go_enter Tryz.func20, Tryz.ntmps20
  go_wp2_with fail
  refine HC.out.mono ?_
  rintro e w1 ⟨A1, n1, c1, A2, n2, c2, rfl, hps, has, hb1⟩
  have hn1 : n1 ≤ 200 := by rw [← hps.len]; exact hl
  have HPS := Lib.hid hps
  have HL := Lib.hid hps.len
  have HAS := Lib.hid has
  have HB1 := Lib.hid hb1
  have hz1 := hb1.size
  have hmk := fun w => run_makeI (P := Tryz.prog) 46 3 Tryz.underlying46 int_info n1 n1 (Nat.le_refl _) (by omega) w
  clear hps has hb1 HC
  go_wp2
  go_loopw [25] (fun i wr => ∃ k : Nat, k ≤ n1 ∧ i = .int .i64 k ∧ IB wr w1.heap.size 3 (kysTo l k) ∧ Below w1.heap.size w1 wr) (fun i _ => n1 - (intOf i).toNat)
  case atStart => exact ⟨0, Nat.zero_le _, rfl, by have := IB.new w1 3 (List.replicate n1 0); simpa [kysTo, HL.out] using this, (Below.refl _ _).alloc (Nat.le_refl _) _⟩
  case round =>
    obtain ⟨k, hk, rfl, hib, hnx⟩ := hrel
    by_cases hlt : k < n1
    · have hkl : k < l.length := by rw [HL.out]; exact hlt
      obtain ⟨b, off, rfl, hbw, hcs⟩ := HPS.out.at_ (by omega)
      obtain ⟨x, hx⟩ : ∃ x, l[k].1 = x := ⟨_, rfl⟩
      obtain ⟨y, hy⟩ : ∃ y, l[k].2 = y := ⟨_, rfl⟩
      have hc0 : wr.cell? ⟨b, off + k * 2, none⟩ = some (I x) := by rw [← hx]; exact (hnx.cell (by exact hbw)).trans (hcs k hlt).1
      have hc1 : wr.cell? ⟨b, off + k * 2 + 1, none⟩ = some (I y) := by rw [← hy]; exact (hnx.cell (by exact hbw)).trans (hcs k hlt).2
      have hl2 := kysTo_len l k (by omega)
      obtain ⟨old, hcell⟩ : ∃ old, wr.cell? ⟨w1.heap.size, k, none⟩ = some (I old) := ⟨_, by rw [hib.cell, List.getElem?_eq_getElem (by omega)]; rfl⟩
      have hfz : wr.frozen? ⟨w1.heap.size, k, none⟩ = false := hib.frozen k
      have hlt1 : w1.heap.size < wr.heap.size := hib.lt
      have hbl : b < wr.heap.size := Nat.lt_of_lt_of_le hbw hnx.size
      have HIB := Lib.hid hib
      have HNX := Lib.hid hnx
      have HSET : Hid (∀ w2, IB w2 w1.heap.size 3 (kysTo l k) → IB (w2.setCell ⟨w1.heap.size, k, none⟩ (I x)) w1.heap.size 3 (kysTo l (k + 1))) := fun w2 h2 => by
        rw [← kysTo_set l k hkl, hx]
        exact h2.set k _
      clear hib hnx hcs hl2 hx hy
      go_wp2
      go_roundw
      case rel => exact ⟨k + 1, by omega, by go_num, (HSET.out wr HIB.out).below ((Below.refl _ _).alloc (Nat.le_refl _) _) (HSET.out wr HIB.out).lt, (HNX.out.setCell (Nat.le_refl _) _).alloc (by simpa [World.setCell] using HNX.out.size) _⟩
      case measure => simp [intOf]; omega
    · have HIS : Hid (IS wr (some ⟨w1.heap.size, 0, none⟩) n1 n1 (kys l)) := by
        rw [show k = l.length by rw [HL.out]; omega, kysTo_all] at hib
        have hl := kys_len l
        rw [HL.out] at hl
        have := hib.is_ (c := n1) (by omega)
        rw [hl] at this
        exact this
      have HRO := Lib.hid (rowsOf_any _ n1 n1 (kys l) wr HIS.out (by omega) ((HT.out.next HB1.out).next hnx))
      have HNX := Lib.hid hnx
      clear hib hnx
      go_wp2_with fail
      refine HRO.out.mono ?_
      rintro e w3 ⟨A3, m3, c3, rfl, hri, hb3⟩
      have HRI := Lib.hid hri
      have HB13 := Lib.hid (HNX.out.trans (hb3.mono HNX.out.size))
      have HB3 := Lib.hid (HB1.out.trans (HB13.out.mono hz1))
      clear hri hb3 HRO
      go_wp2
      go_ret3
      exact ⟨A3, m3, c3, A2, n2, c2, rfl, HRI.out, HAS.out.below HB13.out, HB3.out⟩
end Go.Proofs.YtpnjnedfcdppaaaGreatDoor
