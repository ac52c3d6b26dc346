/-
  hedgref: TreeOf, SpotsRight.
-/
import Derived.Test.YtconegligedniaaBSR
import Derived.Test.YtconegligedniaaBCost
namespace Go.Proofs.Ytconegligedniaa
open Go.RowKit

theorem sp_low {l : PL} {d : Int} {t : Tr} (h : l = t.sp d) {i : Nat} (hi : i < l.length) : d ≤ dp l i := by
  subst h
  rw [sp_length] at hi
  exact sp_ge t d i hi
theorem sp_one {l : PL} {d : Int} {t : Tr} (h : l = t.sp d) {i j : Nat} (hi : i < l.length) (hj : j < l.length) (di : dp l i = d) (dj : dp l j = d) : i = j := by
  subst h
  rw [sp_length] at hi hj
  cases t with
  | nil => simp [Tr.size] at hi
  | node a k b =>
    have h1 := sp_gt a b k d i hi
    have h2 := sp_gt a b k d j hj
    by_cases e1 : i = a.size
    · by_cases e2 : j = a.size
      · omega
      · have := h2 e2; omega
    · have := h1 e1; omega
theorem sp_has {l : PL} {d : Int} {t : Tr} (h : l = t.sp d) (h0 : 0 < l.length) : ∃ i, i < l.length ∧ dp l i = d := by
  subst h
  rw [sp_length] at h0 ⊢
  cases t with
  | nil => simp [Tr.size] at h0
  | node a k b => exact ⟨a.size, by simp only [Tr.size]; omega, (sp_root a b k d).1⟩
theorem sp_cut {l : PL} {d : Int} {t : Tr} (h : l = t.sp d) {i : Nat} (hi : i < l.length) (di : dp l i = d) : ∃ a b : Tr, l.take i = a.sp (d + 1) ∧ l.drop (i + 1) = b.sp (d + 1) := by
  cases t with
  | nil => subst h; simp [Tr.sp] at hi
  | node a k b =>
    have hr := (sp_root a b k d).1
    have e : i = a.size := sp_one h hi (by rw [h, sp_length]; simp only [Tr.size]; omega) di (by rw [h]; exact hr)
    refine ⟨a, b, ?_, ?_⟩
    · rw [h, Tr.sp, e, ← sp_length a (d + 1)]
      exact List.take_left
    · rw [h, Tr.sp, e, ← sp_length a (d + 1)]
      rw [List.drop_append]
      simp
theorem sp_join {l : PL} {d : Int} {a b : Tr} {i : Nat} (hi : i < l.length) (di : dp l i = d) (ha : l.take i = a.sp (d + 1)) (hb : l.drop (i + 1) = b.sp (d + 1)) : l = (Tr.node a (ky l i) b).sp d := by
  rw [Tr.sp, ← ha, ← hb]
  have e : (ky l i, d) = l[i] := by rw [← di, ky_in hi, dp_in hi]
  rw [e]
  rw [← List.drop_eq_getElem_cons hi]
  exact (List.take_append_drop i l).symm

/-- what was found ahead of k -/
def TOt (l : PL) (d : Int) (k : Nat) (aI : Int) : Prop := (∀ q, q < k → d ≤ dp l q) ∧ ((aI = -1 ∧ ∀ q, q < k → dp l q ≠ d) ∨ ∃ a : Nat, aI = a ∧ a < k ∧ dp l a = d)
/-- a tree of this depth, in memory; or there is none -/
def RetTO (l : PL) (d : Int) (w : World) (e : Ending) (w' : World) : Prop :=
  ∃ q b, e = .returned (.tuple #[.pointer q, .bool b]) ∧ (b = true → ∃ t : Tr, l = t.sp d ∧ RT w' q t) ∧ (b = false → ∀ t : Tr, l ≠ t.sp d) ∧ Below w.heap.size w w'

set_option maxRecDepth 100000 in
set_option maxHeartbeats 4000000 in
theorem treeOf_any : ∀ (m : Nat) (A : Option Addr) (n c : Nat) (l : PL) (d : Int) (w : World), PS w A n c l → n ≤ m → n ≤ 200 → 0 ≤ d → d + n ≤ 1000 →
    Calls Try.prog 17 #[.slice A n c, I d] w (RetTO l d w) := by
  intro m
  induction m with
  | zero =>
    intro A n c l d w h hm _ _ _
    have hl : l = [] := List.eq_nil_of_length_eq_zero (by rw [h.len]; omega)
    have HL := Lib.hid hl
    obtain rfl : n = 0 := by omega
    clear hl h
    go_enter Try.func17, Try.ntmps17
    go_wp2
    go_ret2
    exact ⟨none, true, rfl, fun _ => ⟨.nil, by rw [HL.out]; rfl, rfl⟩, fun hf => (by cases hf), Below.refl _ _⟩
  | succ m ih =>
    intro A n c l d w h hm hn hd0 hd1
    by_cases h0 : n = 0
    · have hl : l = [] := List.eq_nil_of_length_eq_zero (by rw [h.len]; omega)
      have HL := Lib.hid hl
      subst h0
      clear hl h
      go_enter Try.func17, Try.ntmps17
      go_wp2
      go_ret2
      exact ⟨none, true, rfl, fun _ => ⟨.nil, by rw [HL.out]; rfl, rfl⟩, fun hf => (by cases hf), Below.refl _ _⟩
    · have hnb : ((n : Int) == 0) = false := by simp; omega
      have hne0 : 0 < n := by omega
      have H := Lib.hid h
      have HLEN := Lib.hid h.len
      have IH := Lib.hid ih
      have hcap := h.rd.1
      clear h ih
      obtain ⟨b, off, rfl, hb, hc⟩ := H.out.dat (by omega)
      have HC := Lib.hid hc
      clear hc
      go_enter Try.func17, Try.ntmps17
      go_wp2
      go_loopw [6, 18] (fun av i wr => ∃ (k : Nat) (aI : Int), k ≤ n ∧ i = .int .i64 k ∧ av = .int .i64 aI ∧ -1 ≤ aI ∧ aI ≤ 200 ∧ Hid (TOt l d k aI) ∧ Below w.heap.size w wr) (fun _ i _ => n - (intOf i).toNat)
      case atStart => exact ⟨0, -1, Nat.zero_le _, rfl, rfl, by omega, by omega, ⟨fun q hq => absurd hq (by omega), .inl ⟨rfl, fun q hq => absurd hq (by omega)⟩⟩, Below.refl _ _⟩
      case round =>
        obtain ⟨k, aI, hk, rfl, rfl, ha0, ha1, HT, hnx⟩ := hrel
        have hsz := hnx.size
        by_cases hlt : k < n
        · have hbwr : b < wr.heap.size := by omega
          have hc0 : wr.cell? ⟨b, off + k * 2, none⟩ = some (I (ky l k)) := (hnx.cell (by exact hb)).trans (HC.out k hlt).1
          have hc1 : wr.cell? ⟨b, off + k * 2 + 1, none⟩ = some (I (dp l k)) := (hnx.cell (by exact hb)).trans (HC.out k hlt).2
          have hkl : k < l.length := by rw [HLEN.out]; exact hlt
          obtain ⟨y, hy⟩ : ∃ y, dp l k = y := ⟨_, rfl⟩
          rw [hy] at hc1
          generalize ky l k = kk at *
          by_cases hyd : y = d
          · by_cases hat : 0 ≤ aI
            · have HNO : Hid (∀ t : Tr, l ≠ t.sp d) := fun t ht => by
                rcases HT.out.2 with ⟨e, _⟩ | ⟨a, e, hak, hda⟩
                · omega
                · have := sp_one ht (i := a) (j := k) (by omega) hkl hda (by rw [hy]; exact hyd)
                  omega
              have hb0 : (y == d) = true := by simp [hyd]
              clear hy hyd
              go_wp2
              go_ret2
              exact ⟨none, false, rfl, fun hf => (by cases hf), fun _ => HNO.out, hnx.alloc hsz _⟩
            · have HN : Hid (TOt l d (k + 1) k) := by
                refine ⟨fun q hq => ?_, .inr ⟨k, rfl, by omega, by rw [hy]; exact hyd⟩⟩
                rcases Nat.lt_or_ge q k with h1 | h1
                · exact HT.out.1 q h1
                · obtain rfl : q = k := by omega
                  omega
              have hb0 : (y == d) = true := by simp [hyd]
              have hyn : ¬ y < d := by omega
              have hk200 : (k : Int) ≤ 200 := by omega
              clear hy hyd
              go_wp2
              go_roundw
              case rel => exact ⟨k + 1, k, by omega, by go_num, rfl, by omega, hk200, HN.out, hnx.alloc hsz _⟩
              case measure => simp [intOf]; omega
          · have hb0 : (y == d) = false := by simp [hyd]
            by_cases hyl : y < d
            · have HNO : Hid (∀ t : Tr, l ≠ t.sp d) := fun t ht => by
                have := sp_low ht hkl
                omega
              clear hy hyd
              go_wp2
              go_ret2
              exact ⟨none, false, rfl, fun hf => (by cases hf), fun _ => HNO.out, hnx.alloc hsz _⟩
            · have HN : Hid (TOt l d (k + 1) aI) := by
                refine ⟨fun q hq => ?_, ?_⟩
                · rcases Nat.lt_or_ge q k with h1 | h1
                  · exact HT.out.1 q h1
                  · obtain rfl : q = k := by omega
                    omega
                · rcases HT.out.2 with ⟨e, hall⟩ | ⟨a, e, hak, hda⟩
                  · refine .inl ⟨e, fun q hq => ?_⟩
                    rcases Nat.lt_or_ge q k with h1 | h1
                    · exact hall q h1
                    · obtain rfl : q = k := by omega
                      rw [hy]; exact hyd
                  · exact .inr ⟨a, e, by omega, hda⟩
              clear hy hyd
              go_wp2
              go_roundw
              case rel => exact ⟨k + 1, aI, by omega, by go_num, rfl, ha0, ha1, HN.out, hnx.alloc hsz _⟩
              case measure => simp [intOf]; omega
        · obtain rfl : k = n := by omega
          have HNX := Lib.hid hnx
          clear hnx
          by_cases hat : aI < 0
          · have HNO : Hid (∀ t : Tr, l ≠ t.sp d) := fun t ht => by
              rcases HT.out.2 with ⟨_, hall⟩ | ⟨a, e, _⟩
              · obtain ⟨i, hi, hdi⟩ := sp_has ht (by rw [HLEN.out]; omega)
                rw [HLEN.out] at hi
                exact hall i hi hdi
              · omega
            go_wp2
            go_ret2
            exact ⟨none, false, rfl, fun hf => (by cases hf), fun _ => HNO.out, HNX.out⟩
          · obtain ⟨a, rfl, hak, hda⟩ : ∃ a : Nat, aI = a ∧ a < k ∧ dp l a = d := by
              rcases HT.out.2 with ⟨e, _⟩ | ⟨a, e, hak, hda⟩
              · omega
              · exact ⟨a, e, hak, hda⟩
            have HDA := Lib.hid hda
            have hal : a < l.length := by rw [HLEN.out]; exact hak
            have hca : wr.cell? ⟨b, off + a * 2, none⟩ = some (I (ky l a)) := (HNX.out.cell (by exact hb)).trans (HC.out a hak).1
            have hdw : IntKind.i64.wrap (d + 1) = d + 1 := IntWalk.i64_in _ (by omega)
            have haw : IntKind.i64.wrap ((a : Int) + 1) = (a : Int) + 1 := IntWalk.i64_in _ (by omega)
            have C1 := Lib.hid (IH.out (some ⟨b, off, none⟩) a c (l.take a) (d + 1) wr ((H.out.below HNX.out).take a (by omega)) (by omega) (by omega) (by omega) (by omega))
            have HAL := Lib.hid hal
            obtain ⟨kk, hkk⟩ : ∃ kk, ky l a = kk := ⟨_, rfl⟩
            have HKK := Lib.hid hkk
            rw [hkk] at hca
            have HCA := Lib.hid hca
            have hbw0 : b < wr.heap.size := Nat.lt_of_lt_of_le hb HNX.out.size
            clear hda hal hkk hca hat
            go_wp2_with fail
            refine C1.out.mono ?_
            rintro e w2 ⟨q1, b1, rfl, ht1, hf1, hb2⟩
            have HT1 := Lib.hid ht1
            have HF1 := Lib.hid hf1
            have HCA2 : Hid (w2.cell? ⟨b, off + a * 2, none⟩ = some (I kk)) := (hb2.cell (by exact hbw0)).trans HCA.out
            have HB2 := Lib.hid (HNX.out.trans (hb2.mono HNX.out.size))
            have hbw2 : b < w2.heap.size := Nat.lt_of_lt_of_le hbw0 hb2.size
            clear ht1 hf1 hb2
            go_wp2_with fail
            all_goals
              refine (IH.out _ (k - (a + 1)) _ (l.drop (a + 1)) (d + 1) w2 ((H.out.below HB2.out).drop (a + 1) (by omega) _ ?hs ?hcc) (by omega) (by omega) (by omega) (by omega)).mono ?_
              case hs =>
                intro hlt b' off' he
                cases he
                first | rfl | (exfalso; omega)
              case hcc => omega
              rintro e w3 ⟨q2, b2, rfl, ht2, hf2, hb3⟩
              have HT2 := Lib.hid ht2
              have HF2 := Lib.hid hf2
              have hca3 : w3.cell? ⟨b, off + a * 2, none⟩ = some (I kk) := (hb3.cell (by exact hbw2)).trans HCA2.out
              have HB3 := Lib.hid (HB2.out.trans (hb3.mono HB2.out.size))
              have HB23 := Lib.hid hb3
              have hbw3 : b < w3.heap.size := Nat.lt_of_lt_of_le hbw2 hb3.size
              clear ht2 hf2 hb3
              cases b1 with
              | true =>
                go_wp2
                go_ret2
                refine ⟨_, b2, rfl, fun hbt => ?_, fun hbf t ht => ?_, HB3.out.alloc HB3.out.size _⟩
                · obtain ⟨ta, e1, r1⟩ := HT1.out (by first | trivial | rfl)
                  obtain ⟨tb, e2, r2⟩ := HT2.out hbt
                  refine ⟨.node ta kk tb, ?_, RT.box kk (r1.below HB23.out) r2⟩
                  rw [← HKK.out]
                  exact sp_join HAL.out HDA.out e1 e2
                · obtain ⟨ta, tb, e1, e2⟩ := sp_cut ht HAL.out HDA.out
                  exact HF2.out hbf tb e2
              | false =>
                go_wp2
                go_ret2
                refine ⟨_, false, rfl, fun hbt => (by cases hbt), fun _ t ht => ?_, HB3.out.alloc HB3.out.size _⟩
                obtain ⟨ta, tb, e1, e2⟩ := sp_cut ht HAL.out HDA.out
                exact HF1.out (by first | trivial | rfl) ta e1

/-- what SpotsRight answers -/
def RetSR (l : PL) (n : Nat) (w : World) (e : Ending) (w' : World) : Prop :=
  ∃ E : Int, e = .returned (I E) ∧ Below w.heap.size w w' ∧ (200 < n → E = 2) ∧ (n ≤ 200 → E = 0 ∨ E = 3) ∧ (E = 0 → IsTree l) ∧ (IsTree l → (∀ i, i < l.length → 0 ≤ ky l i ∧ ky l i ≤ 1000000) → E = 0)
/-- the keys ahead of k are right -/
def SRt (l : PL) (k : Nat) (last : Int) : Prop := ((k = 0 ∧ last = -1) ∨ (0 < k ∧ last = ky l (k - 1))) ∧ (∀ i, i + 1 < k → ky l i < ky l (i + 1)) ∧ -1 ≤ last ∧ last ≤ 1000000

set_option maxRecDepth 100000 in
set_option maxHeartbeats 4000000 in
theorem spotsR_any (A : Option Addr) (n c : Nat) (l : PL) (w : World) (h : PS w A n c l) (hn : n ≤ 9223372036854775807) :
    Calls Try.prog 16 #[.slice A n c] w (RetSR l n w) := by
  have H := Lib.hid h
  have HLEN := Lib.hid h.len
  clear h
  by_cases h200 : 200 < n
  · have HNT : Hid (¬ IsTree l) := fun ht => by have := ht.1; rw [HLEN.out] at this; omega
    go_enter Try.func16, Try.ntmps16
    go_wp2
    go_ret
    exact ⟨2, rfl, Below.refl _ _, fun _ => rfl, fun hx => absurd h200 (by omega), fun hx => absurd hx (by omega), fun ht => absurd ht HNT.out⟩
  · go_enter Try.func16, Try.ntmps16
    go_wp2
    go_loopw [3, 13] (fun lv i wr => ∃ (k : Nat) (last : Int), k ≤ n ∧ i = .int .i64 k ∧ lv = .int .i64 last ∧ -1 ≤ last ∧ last ≤ 1000000 ∧ Hid (SRt l k last) ∧ Below w.heap.size w wr) (fun _ i _ => n - (intOf i).toNat)
    case atStart => exact ⟨0, -1, Nat.zero_le _, rfl, rfl, by omega, by omega, ⟨.inl ⟨rfl, rfl⟩, fun i hi => absurd hi (by omega), by omega, by omega⟩, Below.refl _ _⟩
    case round =>
      obtain ⟨k, last, hk, rfl, rfl, hl0, hl1, HS, hnx⟩ := hrel
      have hsz := hnx.size
      by_cases hlt : k < n
      · obtain ⟨b, off, rfl, hb, hc⟩ := H.out.dat (by omega)
        have hbwr : b < wr.heap.size := by omega
        have hc0 : wr.cell? ⟨b, off + k * 2, none⟩ = some (I (ky l k)) := (hnx.cell (by exact hb)).trans (hc k hlt).1
        have hc1 : wr.cell? ⟨b, off + k * 2 + 1, none⟩ = some (I (dp l k)) := (hnx.cell (by exact hb)).trans (hc k hlt).2
        have hkl : k < l.length := by rw [HLEN.out]; exact hlt
        obtain ⟨x, hx⟩ : ∃ x, ky l k = x := ⟨_, rfl⟩
        rw [hx] at hc0
        generalize dp l k = dd at *
        have e1 : IntKind.i64.wrap (last + 1) = last + 1 := IntWalk.i64_in _ (by omega)
        have HBX : Hid (∀ W : World, Calls Try.prog 31 #[I x, .int .i64 (last + 1), .int .i64 1000000] W fun e w' => e = .returned (.bool (decide (last + 1 ≤ x ∧ x ≤ 1000000))) ∧ W = w') := fun W => betw_any x (last + 1) 1000000 W
        have HNX := Lib.hid hnx
        by_cases hok : last + 1 ≤ x ∧ x ≤ 1000000
        · have hd : decide (last + 1 ≤ x ∧ x ≤ 1000000) = true := decide_eq_true hok
          rw [hd] at HBX
          have HN : Hid (SRt l (k + 1) x) := by
            refine ⟨.inr ⟨by omega, by rw [← hx, Nat.add_sub_cancel]⟩, fun i hi => ?_, by omega, by omega⟩
            rcases Nat.lt_or_ge (i + 1) k with h1 | h1
            · exact HS.out.2.1 i h1
            · obtain rfl : k = i + 1 := by omega
              rcases HS.out.1 with ⟨h2, _⟩ | ⟨_, h2⟩
              · omega
              · rw [Nat.add_sub_cancel] at h2
                rw [hx]
                omega
          have hx0 : -1 ≤ x ∧ x ≤ 1000000 := by omega
          clear hc hx hd hok hnx
          go_wp2_with fail
          refine (HBX.out _).mono ?_
          rintro e w2 ⟨rfl, rfl⟩
          go_wp2
          go_roundw
          case rel => exact ⟨k + 1, x, by omega, by go_num, rfl, hx0.1, hx0.2, HN.out, HNX.out.alloc hsz _⟩
          case measure => simp [intOf]; omega
        · have hd : decide (last + 1 ≤ x ∧ x ≤ 1000000) = false := decide_eq_false hok
          rw [hd] at HBX
          have HNT : Hid (IsTree l → ¬ ∀ i, i < l.length → 0 ≤ ky l i ∧ ky l i ≤ 1000000) := fun ht hall => by
            apply hok
            have h1 := hall k hkl
            rw [hx] at h1
            refine ⟨?_, h1.2⟩
            rcases HS.out.1 with ⟨_, h2⟩ | ⟨h2, h3⟩
            · omega
            · have h4 := ht.2.1 (k - 1) (by omega)
              rw [show k - 1 + 1 = k by omega, hx] at h4
              omega
          clear hc hx hd hok hnx
          go_wp2_with fail
          refine (HBX.out _).mono ?_
          rintro e w2 ⟨rfl, rfl⟩
          go_wp2
          go_ret
          exact ⟨3, rfl, HNX.out.alloc hsz _, fun hx => absurd hx h200, fun _ => .inr rfl, fun hx => absurd hx (by omega), fun ht hall => absurd hall (HNT.out ht)⟩
      · obtain rfl : k = n := by omega
        have HT := Lib.hid (treeOf_any k A k c l 0 wr (H.out.below hnx) (Nat.le_refl _) (by omega) (by omega) (by omega))
        have HNX := Lib.hid hnx
        clear hnx
        go_wp2_with fail
        refine HT.out.mono ?_
        rintro e w2 ⟨q, b, rfl, ht, hf, hb2⟩
        have HB2 := Lib.hid (HNX.out.trans (hb2.mono HNX.out.size))
        have HTT := Lib.hid ht
        have HFF := Lib.hid hf
        clear ht hf hb2
        cases b with
        | true =>
          go_wp2
          go_ret
          refine ⟨0, rfl, HB2.out, fun hx => absurd hx h200, fun _ => .inl rfl, fun _ => ?_, fun _ _ => rfl⟩
          obtain ⟨t, e1, _⟩ := HTT.out (by first | trivial | rfl)
          refine ⟨by rw [HLEN.out]; omega, fun i hi => HS.out.2.1 i (by rw [HLEN.out] at hi; exact hi), t, e1⟩
        | false =>
          go_wp2
          go_ret
          refine ⟨3, rfl, HB2.out, fun hx => absurd hx h200, fun _ => .inr rfl, fun hx => absurd hx (by omega), fun ht _ => ?_⟩
          obtain ⟨t, e1⟩ := ht.2.2
          exact absurd e1 (HFF.out (by first | trivial | rfl) t)

end Go.Proofs.Ytconegligedniaa
