/-
  Joined texts: YtpnjnedfcdppaaaGreatDoorORef, YtpnjnedfcdppaaaGreatDoorOBuilt, YtpnjnedfcdppaaaGreatDoorOGoated.
-/
import Derived.Test.YtpnjnedfcdppaaaGreatDoorGRefUAll
import Derived.Test.YtpnjnedfcdppaaaGreatDoorOSumAll
import Derived.Test.YtpnjnedfcdppaaaGreatDoorInts
import Derived.Test.YtpnjnedfcdppaaaGreatDoorOInAll
import Derived.BigRegion
import Derived.Test.YtpnjnedfcdppaaaGreatDoorORunAll
/-
  package hedgref: EvenTree, inOrder, depthIn, DeepestOf.
-/
namespace Go.Proofs.YtpnjnedfcdppaaaGreatDoor
open Go.RowKit

theorem ev_at {l : List Int} {n : Nat} (hl : l.length = n) (h0 : 0 < n) : ∃ x, l[n / 2]? = some x ∧ ev l = .node (ev (l.take (n / 2))) x (ev (l.drop (n / 2 + 1))) := by
  have hm : n / 2 < l.length := by omega
  refine ⟨l[n / 2], List.getElem?_eq_getElem hm, ?_⟩
  rw [ev_eq (List.length_pos_iff.1 (by omega)), hl, List.getElem?_eq_getElem hm]
  rfl

theorem EvenTree_zero (A : Option Addr) (c : Nat) (w : World) : Calls Tryz.prog 115 #[.slice A 0 c] w fun e w' => e = .returned (.pointer none) ∧ w' = w := by
  go_enter Tryz.func115, Tryz.ntmps115
  go_wp2
  go_ret
  exact ⟨rfl, rfl⟩

set_option maxRecDepth 100000 in
set_option maxHeartbeats 8000000 in
theorem EvenTree_any : ∀ (m : Nat) (A : Option Addr) (n c : Nat) (l : List Int) (w : World), n ≤ m → IS w A n c l → n ≤ 1000 → Calls Tryz.prog 115 #[.slice A n c] w (RetT (ev l) w) := by
  intro m
  induction m with
  | zero =>
    intro A n c l w hm h hn
    obtain rfl : n = 0 := by omega
    have hl : l = [] := List.eq_nil_of_length_eq_zero h.len
    subst hl
    refine (EvenTree_zero A c w).mono ?_
    rintro e w' ⟨rfl, rfl⟩
    exact ⟨none, rfl, rfl, Below.refl _ _⟩
  | succ m ih =>
    intro A n c l w hm h hn
    rcases Nat.eq_zero_or_pos n with h0 | h0
    · subst h0
      have hl : l = [] := List.eq_nil_of_length_eq_zero h.len
      subst hl
      refine (EvenTree_zero A c w).mono ?_
      rintro e w' ⟨rfl, rfl⟩
      exact ⟨none, rfl, rfl, Below.refl _ _⟩
    · obtain ⟨x, hx, hev⟩ := ev_at h.len h0
      obtain ⟨y, hy⟩ : ∃ y, n / 2 = y := ⟨_, rfl⟩
      rw [hy] at hx hev
      have hcap := h.rd.1
      obtain ⟨b, off, rfl, hb, hc⟩ := h.at_ h0
      have hyn : y < n := by omega
      have c0 : w.cell? ⟨b, off + y, none⟩ = some (I x) := by
        have hyl : y < l.length := by rw [h.len]; exact hyn
        rw [List.getElem?_eq_getElem hyl] at hx
        have := hc y hyn
        rw [Option.some.inj hx] at this
        exact this
      have HTA : Hid (∀ w', Below w.heap.size w w' → Calls Tryz.prog 115 #[.slice (some ⟨b, off, none⟩) y c] w' (RetT (ev (l.take y)) w')) := fun w' hb' => ih _ y c (l.take y) w' (by omega) ((h.below hb').take y (by omega)) (by omega)
      have HTB : Hid (∀ (w' : World) (sp : Option Addr) (c' : Nat), Below w.heap.size w w' → (y + 1 < n → sp = some ⟨b, off + (y + 1), none⟩) → n - (y + 1) ≤ c' → Calls Tryz.prog 115 #[.slice sp ((n - (y + 1) : Nat)) c'] w' (RetT (ev (l.drop (y + 1))) w')) := fun w' sp c' hb' hsp hc' =>
        ih sp _ c' (l.drop (y + 1)) w' (by omega) ((h.below hb').drop (y + 1) (by omega) sp (fun hlt b' off' e' => by cases e'; exact hsp hlt) hc') (by omega)
      rw [hev]
      have hn0 : ((n : Int) == 0) = false := by simp; omega
      have hq1 : (n : Int) / 2 = (y : Int) := by omega
      have hq2 : (n : Int).tdiv 2 = (y : Int) := by rw [Int.tdiv_eq_ediv_of_nonneg (by omega)]; exact hq1
      have hyc : y + 1 ≤ n := by omega
      have i0 : (0 : Int) ≤ (y : Int) := by omega
      have i1 : (y : Int) ≤ (c : Int) := by omega
      have i2 : (y : Int) < (n : Int) := by omega
      have i3 : IntKind.i64.wrap ((y : Int) + 1) = (y : Int) + 1 := IntWalk.i64_in _ (by omega)
      have i4 : (0 : Int) ≤ (y : Int) + 1 := by omega
      have i5 : (y : Int) + 1 ≤ (n : Int) := by omega
      have i6 : (n : Int) ≤ (c : Int) := by omega
      have i7 : ((y : Int) + 1).toNat = y + 1 := by omega
      have i8 : y ≤ c := by omega
      have i9 : (0 : Int) ≤ (n : Int) := by omega
      have hnil : c = y + 1 → ev (l.drop (y + 1)) = .nil := fun hcy => by
        rw [List.drop_eq_nil_of_le (by rw [h.len]; omega)]
        rfl
      generalize ev (l.take y) = ta at *
      generalize ev (l.drop (y + 1)) = tb at *
      clear ih h hc hx hev hy hm
      by_cases hcy : c = y + 1
      · have hjc : n - c = 0 := by omega
        obtain rfl := hnil hcy
        have z0 : ((y : Int) + 1).toNat = c := by omega
        clear hcy i7 HTB hnil
        go_enter Tryz.func115, Tryz.ntmps115
        go_wp2
        go_region_held3 (fun W => W.cell? ⟨b, off + y, none⟩ = some (I x))
          (first
            | exact d0
            | exact ck d0 _
            | exact c0)
          (first
            | (go_at_call 115
               with_reducible refine (EvenTree_zero _ _ _).mono ?_
               rintro e w3 ⟨rfl, rfl⟩)
            | (go_at_call 115
               with_reducible refine (HTA.out _ (Below.refl _ _).drew).mono ?_
               rintro e w2 ⟨q2, rfl, hr2, hb2⟩
               have d0 : w2.cell? ⟨b, off + y, none⟩ = some (I x) := (hb2.cell (by exact hb)).trans c0
               have HR2 := Lib.hid hr2
               have HB2 : Hid (Below w.heap.size w w2) := (Below.refl _ _).drew.trans hb2
               clear hr2 hb2))
        all_goals go_wp2
        all_goals go_ret
        all_goals exact ⟨_, rfl, RT.box x HR2.out (b := .nil) rfl, HB2.out.alloc HB2.out.size _⟩
      · clear hnil
        go_enter Tryz.func115, Tryz.ntmps115
        go_wp2
        go_region_held3 (fun W => W.cell? ⟨b, off + y, none⟩ = some (I x))
          (first
            | exact d0
            | exact e0
            | exact ck e0 _
            | exact c0)
          (first
            | (go_at_call 115
               with_reducible refine (HTA.out _ (Below.refl _ _).drew).mono ?_
               rintro e w2 ⟨q2, rfl, hr2, hb2⟩
               have d0 : w2.cell? ⟨b, off + y, none⟩ = some (I x) := (hb2.cell (by exact hb)).trans c0
               have HR2 := Lib.hid hr2
               have HB2 : Hid (Below w.heap.size w w2) := (Below.refl _ _).drew.trans hb2
               clear hr2 hb2)
            | (go_at_call 115
               refine (HTB.out _ _ _ HB2.out (by intro hlt; first | (exfalso; omega) | rfl) (by omega)).mono ?_
               rintro e w3 ⟨q3, rfl, hr3, hb3⟩
               have e0 : w3.cell? ⟨b, off + y, none⟩ = some (I x) := (hb3.cell (by have := HB2.out.size; show b < _; omega)).trans d0
               have HR3 := Lib.hid hr3
               have HR23 : Hid (RT w3 q2 ta) := HR2.out.below hb3
               have HB3 : Hid (Below w.heap.size w w3) := HB2.out.trans (hb3.mono HB2.out.size)
               clear hr3 hb3))
        all_goals go_wp2
        all_goals go_ret
        all_goals exact ⟨_, rfl, RT.box x HR23.out HR3.out, HB3.out.alloc HB3.out.size _⟩

set_option maxHeartbeats 1000000 in
theorem depthIn_any (x : Int) (t : Tr) : ∀ (q : Option Addr) (w : World), RT w q t → Up t.ks → x ∈ t.ks → t.size ≤ 1000 → Calls Tryz.prog 178 #[.pointer q, I x] w fun e w' => e = .returned (I (t.dpx x : Int)) ∧ w' = w := by
  induction t with
  | nil => intro q w _ _ h; simp [Tr.ks] at h
  | node a k b iha ihb =>
    intro q w h hu hx hz
    obtain ⟨u1, u2, u3, u4⟩ := up_node.1 hu
    rw [mem_node] at hx
    simp only [Tr.size] at hz
    obtain ⟨g, qa, qb, rfl, hg, ha, hb⟩ := h
    obtain ⟨hlt, c0, c1, c2⟩ := tree_cells hg
    have hbd : ∀ t : Tr, t.dpx x ≤ t.size := fun t => by
      induction t with
      | nil => exact Nat.le_refl _
      | node a k b iha ihb =>
        simp only [Tr.dpx, Tr.size]
        split
        · omega
        · split <;> omega
    rcases Int.lt_trichotomy x k with h1 | h1 | h1
    · have hxa : x ∈ a.ks := by
        rcases hx with hx | hx | hx
        · exact hx
        · omega
        · have := u4 x hx; omega
      have HC := Lib.hid (iha qa w ha u1 hxa (by omega))
      have HE : Hid ((Tr.node a k b).dpx x = a.dpx x + 1) := by show _ = _; rw [Tr.dpx, if_pos h1]
      have hd := hbd a
      rw [HE.out]
      generalize a.dpx x = d at *
      clear hg ha hb iha ihb hx hxa u1 u2 u3 u4 hu hbd
      go_enter Tryz.func178, Tryz.ntmps178
      go_wp2_with fail
      refine HC.out.mono ?_
      rintro e w1 ⟨rfl, hw1⟩
      subst hw1
      go_wp2
      go_ret
      exact ⟨ret_int (by omega), rfl⟩
    · have HE : Hid ((Tr.node a k b).dpx x = 0) := by show _ = _; rw [Tr.dpx, if_neg (by omega), if_neg (by omega)]
      have hn1 : ¬ x < k := by omega
      have hn2 : ¬ k < x := by omega
      rw [HE.out]
      clear hg ha hb iha ihb hx u1 u2 u3 u4 hu hbd h1
      go_enter Tryz.func178, Tryz.ntmps178
      go_wp2
      go_ret
      exact ⟨rfl, rfl⟩
    · have hxb : x ∈ b.ks := by
        rcases hx with hx | hx | hx
        · have := u3 x hx; omega
        · omega
        · exact hx
      have HC := Lib.hid (ihb qb w hb u2 hxb (by omega))
      have HE : Hid ((Tr.node a k b).dpx x = b.dpx x + 1) := by show _ = _; rw [Tr.dpx, if_neg (by omega), if_pos h1]
      have hn1 : ¬ x < k := by omega
      have hd := hbd b
      rw [HE.out]
      generalize b.dpx x = d at *
      clear hg ha hb iha ihb hx hxb u1 u2 u3 u4 hu hbd
      go_enter Tryz.func178, Tryz.ntmps178
      go_wp2_with fail
      refine HC.out.mono ?_
      rintro e w1 ⟨rfl, hw1⟩
      subst hw1
      go_wp2
      go_ret
      exact ⟨ret_int (by omega), rfl⟩

theorem power_any (b n : Nat) (w : World) (hb : b ≤ 3) (hb1 : 1 ≤ b) (hn : n ≤ 30) :
    Calls Tryz.prog 218 #[I b, I n] w fun e w' => e = .returned (I ((b ^ n : Nat) : Int)) ∧ w' = w := by
  go_enter Tryz.func218, Tryz.ntmps218
  go_wp2
  go_loopg [5, 7] n (fun m u i wr => wr = w ∧ ∃ k : Nat, k ≤ n ∧ n - k ≤ m ∧ i = .int .i64 k ∧ u = .int .i64 ((b ^ k : Nat) : Int))
  case atStart => exact ⟨rfl, 0, Nat.zero_le _, by omega, rfl, rfl⟩
  case round =>
    obtain ⟨rfl, k, hk, hkm, rfl, rfl⟩ := hrel
    by_cases hlt : k < n
    · have hbd : b ^ k ≤ 3 ^ 30 := Nat.le_trans (Nat.pow_le_pow_left hb k) (Nat.pow_le_pow_right (by decide) (by omega))
      have h30 : 3 ^ 30 = 205891132094649 := by decide +kernel
      rw [h30] at hbd
      have HUP := Lib.hid (Nat.pow_succ b k)
      obtain ⟨y, hy⟩ : ∃ y, b ^ k = y := ⟨_, rfl⟩
      rw [hy] at hbd HUP ⊢
      have hyb : y * b ≤ 205891132094649 * 3 := Nat.mul_le_mul hbd hb
      obtain ⟨z, hz⟩ : ∃ z, y * b = z := ⟨_, rfl⟩
      have hz' : (y : Int) * (b : Int) = (z : Int) := by rw [← hz]; simp
      rw [hz] at hyb HUP
      clear hy hz h30
      go_wp2
      go_roundg (gk - 1)
      case measure => omega
      case rel => exact ⟨rfl, k + 1, by omega, by omega, by go_num, by rw [HUP.out]⟩
    · obtain rfl : k = n := by omega
      go_wp2
      go_ret
      exact ⟨rfl, rfl⟩

set_option maxRecDepth 100000 in
set_option maxHeartbeats 2000000 in
theorem DeepestOf_any (m : Nat) (w : World) (hm : m ≤ 200) :
    Calls Tryz.prog 179 #[I m] w fun e w' => e = .returned (I (dpst m : Int)) ∧ w' = w := by
  have HP3 := Lib.hid (fun (n : Nat) (hn : n ≤ 30) (w : World) => power_any 3 n w (by omega) (by omega) hn)
  have HP2 := Lib.hid (fun (n : Nat) (hn : n ≤ 30) (w : World) => power_any 2 n w (by omega) (by omega) hn)
  go_enter Tryz.func179, Tryz.ntmps179
  go_wp2
  go_loopg [4, 5] 30 (fun q u i wr => wr = w ∧ ∃ k : Nat, k ≤ 30 ∧ 30 - k ≤ q ∧ i = .int .i64 ((k : Int) + 1) ∧ u = .int .i64 (dpS m k : Int))
  case atStart => exact ⟨rfl, 0, by omega, by omega, rfl, rfl⟩
  case round =>
    obtain ⟨rfl, k, hk, hkq, rfl, rfl⟩ := hrel
    by_cases hlt : k < 30
    · have HST := Lib.hid (show dpS m (k + 1) = if 3 ^ (k + 1) ≤ m * 2 ^ (k + 1) then k + 1 else dpS m k from rfl)
      have hk31 : (k : Int) + 1 ≤ 30 := by omega
      have h3 : 3 ^ (k + 1) ≤ 3 ^ 30 := Nat.pow_le_pow_right (by decide) (by omega)
      have h2 : 2 ^ (k + 1) ≤ 2 ^ 30 := Nat.pow_le_pow_right (by decide) (by omega)
      have e3 : 3 ^ 30 = 205891132094649 := by decide +kernel
      have e2 : 2 ^ 30 = 1073741824 := by decide +kernel
      rw [e3] at h3
      rw [e2] at h2
      rcases Nat.eq_zero_or_pos m with h0 | h0
      · subst h0
        have HS : Hid (dpS 0 (k + 1) = dpS 0 k) := by
          show _ = _
          rw [HST.out, if_neg]
          have : 0 < 3 ^ (k + 1) := Nat.pow_pos (by decide)
          omega
        clear HST h3 h2 e3 e2
        generalize dpS 0 k = d at *
        go_wp2
        go_roundg (gk - 1)
        case measure => omega
        case rel => exact ⟨rfl, k + 1, by omega, by omega, by go_num, by rw [HS.out]⟩
      · have C3 := Lib.hid (HP3.out (k + 1) (by omega))
        have C2 := Lib.hid (HP2.out (k + 1) (by omega))
        have hm0 : (0 : Int) < (m : Int) := by omega
        obtain ⟨x, hx⟩ : ∃ x, 3 ^ (k + 1) = x := ⟨_, rfl⟩
        obtain ⟨y, hy⟩ : ∃ y, 2 ^ (k + 1) = y := ⟨_, rfl⟩
        rw [hx] at h3 HST C3
        rw [hy] at h2 HST C2
        have hmy : m * y ≤ 200 * 1073741824 := Nat.mul_le_mul hm h2
        obtain ⟨z, hz⟩ : ∃ z, m * y = z := ⟨_, rfl⟩
        have hz' : (m : Int) * (y : Int) = (z : Int) := by rw [← hz]; simp
        rw [hz] at hmy HST
        clear hx hy hz e3 e2
        generalize dpS m k = d at *
        by_cases hle : x ≤ z
        · have HS : Hid (dpS m (k + 1) = k + 1) := by show _ = _; rw [HST.out, if_pos hle]
          have hle' : (x : Int) ≤ (z : Int) := by omega
          clear HST hle
          go_wp2_with fail
          refine (C3.out _).mono ?_
          rintro e w1 ⟨rfl, hw1⟩
          subst hw1
          go_wp2_with fail
          refine (C2.out _).mono ?_
          rintro e w2 ⟨rfl, hw2⟩
          subst hw2
          go_wp2
          go_roundg (gk - 1)
          case measure => omega
          case rel => exact ⟨rfl, k + 1, by omega, by omega, by go_num, by rw [HS.out]; go_num⟩
        · have HS : Hid (dpS m (k + 1) = d) := by show _ = _; rw [HST.out, if_neg hle]
          have hle' : ¬ (x : Int) ≤ (z : Int) := by omega
          clear HST hle
          go_wp2_with fail
          refine (C3.out _).mono ?_
          rintro e w1 ⟨rfl, hw1⟩
          subst hw1
          go_wp2_with fail
          refine (C2.out _).mono ?_
          rintro e w2 ⟨rfl, hw2⟩
          subst hw2
          go_wp2
          go_roundg (gk - 1)
          case measure => omega
          case rel => exact ⟨rfl, k + 1, by omega, by omega, by go_num, by rw [HS.out]⟩
    · obtain rfl : k = 30 := by omega
      go_wp2
      go_ret
      exact ⟨rfl, rfl⟩

end Go.Proofs.YtpnjnedfcdppaaaGreatDoor

/-
  hedgref.builtAnew: the lowest part above a key that leans too much, built anew.
-/
namespace Go.Proofs.YtpnjnedfcdppaaaGreatDoor
open Go.RowKit

def baT (t : Tr) : Option (Tr × Nat) → Tr
  | none => t
  | some p => p.1
def baN : Option (Tr × Nat) → Nat
  | none => 0
  | some p => p.2
def baB : Option (Tr × Nat) → Bool
  | none => false
  | some _ => true
def RetBA (t : Tr) (r : Option (Tr × Nat)) (w : World) (e : Ending) (w' : World) : Prop := ∃ q, e = .returned (.tuple #[.pointer q, I (baN r : Int), .bool (baB r)]) ∧ RT w' q (baT t r) ∧ Below w.heap.size w w'
theorem reb_bd {x : Int} : ∀ {t : Tr} {p : Tr × Nat}, t.reb x = some p → p.2 ≤ t.size ∧ p.1.size = t.size := by
  intro t p h
  refine ⟨?_, reb_size h⟩
  revert p
  induction t with
  | nil => intro p h; cases h
  | node a k b iha ihb =>
    intro p h
    rcases reb_cases h with ⟨_, q, hq, rfl⟩ | ⟨_, q, hq, rfl⟩ | hl
    · have := iha hq
      simp only [Tr.size]
      omega
    · have := ihb hq
      simp only [Tr.size]
      omega
    · rw [(lean_facts hl).2.1]
      simp only [Tr.size]
      omega

set_option maxRecDepth 100000 in
set_option maxHeartbeats 8000000 in
theorem builtAnew_any (x : Int) (t : Tr) : ∀ (q : Option Addr) (w : World), RT w q t → t.size ≤ 1000 → Calls Tryz.prog 180 #[.pointer q, I x] w (RetBA t (t.reb x) w) := by
  induction t with
  | nil =>
    intro q w h hz
    obtain rfl : q = none := h
    go_enter Tryz.func180, Tryz.ntmps180
    go_wp2
    go_ret3
    exact ⟨none, rfl, rfl, Below.refl _ _⟩
  | node a k b iha ihb =>
    intro q w h hz
    have H := Lib.hid h
    obtain ⟨g, qa, qb, rfl, hg, ha, hb⟩ := h
    obtain ⟨hlt, c0, c1, c2⟩ := tree_cells hg
    have HA := Lib.hid ha
    have HB := Lib.hid hb
    obtain ⟨na, hna⟩ : ∃ na, a.size = na := ⟨_, rfl⟩
    obtain ⟨nb, hnb⟩ : ∃ nb, b.size = nb := ⟨_, rfl⟩
    have HNA := Lib.hid hna
    have HNB := Lib.hid hnb
    simp only [Tr.size] at hz
    rw [hna, hnb] at hz
    have IHA := Lib.hid (iha qa w ha (by omega))
    have IHB := Lib.hid (ihb qb w hb (by omega))
    have HSZ : Hid ((Tr.node a k b).size = na + 1 + nb) := by show _ = _; simp only [Tr.size]; omega
    have HKL : Hid ((Tr.node a k b).ks.length = na + 1 + nb) := by show _ = _; rw [ks_length]; exact HSZ.out
    have HLT : Hid (leanT a k b = if 2 * (na + nb + 1) < 3 * max na nb then some (ev (Tr.node a k b).ks, na + nb + 1) else none) := by
      show _ = _
      unfold leanT
      rw [hna, hnb]
    clear hg ha hb iha ihb hna hnb
    rcases Int.lt_trichotomy x k with hx | hx | hx
    · have hne : (k == x) = false := by simp; omega
      have HRB : Hid ((Tr.node a k b).reb x = (match a.reb x with
        | some p => some (.node p.1 k b, p.2)
        | none => leanT a k b)) := by show _ = _; rw [Tr.reb, if_pos hx]; rfl
      cases hr : a.reb x with
      | some p =>
        rw [hr] at HRB IHA
        have HE : Hid ((Tr.node a k b).reb x = some (.node p.1 k b, p.2)) := HRB.out
        rw [HE.out]
        clear hr HRB HE HLT
        go_enter Tryz.func180, Tryz.ntmps180
        go_wp2_with fail
        refine IHA.out.mono ?_
        rintro e w2 ⟨q2, rfl, hr2, hb2⟩
        have hr2' : RT w2 q2 p.1 := hr2
        have d0 : w2.cell? ⟨g, 0, none⟩ = some (I k) := (hb2.cell (by exact hlt)).trans c0
        have d1 : w2.cell? ⟨g, 1, none⟩ = some (.pointer qa) := (hb2.cell (by exact hlt)).trans c1
        have d2 : w2.cell? ⟨g, 2, none⟩ = some (.pointer qb) := (hb2.cell (by exact hlt)).trans c2
        have HR2 := Lib.hid hr2'
        have HB2 := Lib.hid hb2
        have hgl : g < w2.heap.size := by have := hb2.size; omega
        clear hr2 hr2' hb2 IHA
        unfold baN baB
        go_wp2
        go_region
        all_goals go_wp2
        all_goals go_ret3
        all_goals exact ⟨_, rfl, (RT.box k HR2.out (HB.out.below HB2.out)).drew, (HB2.out.alloc HB2.out.size _).drew⟩
      | none =>
        rw [hr] at HRB IHA
        have HE : Hid ((Tr.node a k b).reb x = leanT a k b) := HRB.out
        rw [HE.out]
        clear hr HRB HE
        go_enter Tryz.func180, Tryz.ntmps180
        go_wp2_with fail
        refine IHA.out.mono ?_
        rintro e w2 ⟨q2, rfl, _, hb2⟩
        have d0 : w2.cell? ⟨g, 0, none⟩ = some (I k) := (hb2.cell (by exact hlt)).trans c0
        have d1 : w2.cell? ⟨g, 1, none⟩ = some (.pointer qa) := (hb2.cell (by exact hlt)).trans c1
        have d2 : w2.cell? ⟨g, 2, none⟩ = some (.pointer qb) := (hb2.cell (by exact hlt)).trans c2
        have hgl : g < w2.heap.size := by have := hb2.size; omega
        have HA2 := Lib.hid (HA.out.below hb2)
        have HB2' := Lib.hid (HB.out.below hb2)
        have HH2 := Lib.hid (H.out.below hb2)
        have HBW := Lib.hid hb2
        clear hb2 IHA
        unfold baN baB
        go_wp2
        go_region_held3 (fun W => W.cell? ⟨g, 0, none⟩ = some (I k) ∧ W.cell? ⟨g, 1, none⟩ = some (.pointer qa) ∧ W.cell? ⟨g, 2, none⟩ = some (.pointer qb))
          (first
            | exact ⟨e0, e1, e2⟩
            | exact ⟨f0, f1, f2⟩
            | exact ⟨d0, d1, d2⟩)
          (first
            | (go_at_call 177
               with_reducible refine (inOrder_any a qa na _ HA2.out.drew HNA.out (by omega)).mono ?_
               rintro e w3 ⟨A3, c3, rfl, _, hb3⟩
               have hB3 : Below w2.heap.size w2 w3 := (Below.refl _ _).drew.trans hb3
               have f0 : w3.cell? ⟨g, 0, none⟩ = some (I k) := (hB3.cell (by exact hgl)).trans d0
               have f1 : w3.cell? ⟨g, 1, none⟩ = some (.pointer qa) := (hB3.cell (by exact hgl)).trans d1
               have f2 : w3.cell? ⟨g, 2, none⟩ = some (.pointer qb) := (hB3.cell (by exact hgl)).trans d2
               have HB3 := Lib.hid hB3
               have HRB3 := Lib.hid (HB2'.out.below hB3)
               clear hb3 hB3)
            | (go_at_call 177
               with_reducible refine (inOrder_any b qb nb _ HRB3.out HNB.out (by omega)).mono ?_
               rintro e w4 ⟨A4, c4, rfl, _, hb4⟩
               have hB4 : Below w2.heap.size w2 w4 := HB3.out.trans (hb4.mono HB3.out.size)
               have e0 : w4.cell? ⟨g, 0, none⟩ = some (I k) := (hB4.cell (by exact hgl)).trans d0
               have e1 : w4.cell? ⟨g, 1, none⟩ = some (.pointer qa) := (hB4.cell (by exact hgl)).trans d1
               have e2 : w4.cell? ⟨g, 2, none⟩ = some (.pointer qb) := (hB4.cell (by exact hgl)).trans d2
               have HB4 := Lib.hid hB4
               clear hb4 hB4)
            | fail)
        all_goals
          have HH4 := Lib.hid (HH2.out.below HB4.out)
          have HBX := Lib.hid (below_next HBW.out HB4.out)
          obtain ⟨s, hs⟩ : ∃ s : Int, (if (na : Int) < (nb : Int) then (nb : Int) else (na : Int)) = s := ⟨_, rfl⟩
          have hs' : (if na < nb then (nb : Int) else (na : Int)) = s := by rw [← hs]; split <;> split <;> omega
          by_cases hle : 2 * (na + nb + 1) < 3 * max na nb
          · have HL2 : Hid (leanT a k b = some (ev (Tr.node a k b).ks, na + nb + 1)) := by show _ = _; rw [HLT.out, if_pos hle]
            have hs1 : 2 * ((na : Int) + (nb : Int) + 1) < 3 * s ∧ 0 ≤ s ∧ s ≤ 1000 := by rw [← hs]; split <;> omega
            obtain ⟨s1, s2, s3⟩ := hs1
            have hcast : ((na + nb + 1 : Nat) : Int) = (na : Int) + (nb : Int) + 1 := by omega
            have HIO := Lib.hid (inOrder_any (.node a k b) (some ⟨g, 0, none⟩) (na + 1 + nb) w4 HH4.out HSZ.out (by omega))
            clear hle HLT c0 c1 c2 d0 d1 d2 f0 f1 f2 e0 e1 e2
            have HCAST := Lib.hid hcast
            clear hcast
            go_wp2_with fail
            refine HIO.out.mono ?_
            rintro e w5 ⟨A5, c5, rfl, hi5, hb5⟩
            have HET := Lib.hid (EvenTree_any _ A5 (na + 1 + nb) c5 _ w5 (Nat.le_refl _) hi5 (by omega))
            have HB5 := Lib.hid (below_next HBX.out hb5)
            clear hi5 hb5 HIO
            go_wp2_with fail
            refine HET.out.mono ?_
            rintro e w6 ⟨q6, rfl, hr6, hb6⟩
            have HR6 := Lib.hid hr6
            have HB6 := Lib.hid (below_next HB5.out hb6)
            clear hr6 hb6 HET
            go_wp2
            go_ret3
            refine ⟨q6, ?_, by rw [HL2.out]; exact HR6.out, HB6.out⟩
            rw [HL2.out]
            show _ = Ending.returned (.tuple #[.pointer q6, I ((na + nb + 1 : Nat) : Int), .bool true])
            rw [HCAST.out]
            rfl
          · have HL2 : Hid (leanT a k b = none) := by show _ = _; rw [HLT.out, if_neg hle]
            have hs1 : ¬ 2 * ((na : Int) + (nb : Int) + 1) < 3 * s ∧ 0 ≤ s ∧ s ≤ 1000 := by rw [← hs]; split <;> omega
            obtain ⟨s1, s2, s3⟩ := hs1
            clear hle HLT c0 c1 c2 d0 d1 d2 f0 f1 f2 e0 e1 e2
            go_wp2
            go_ret3
            exact ⟨_, by rw [HL2.out]; rfl, by rw [HL2.out]; exact HH4.out, HBX.out⟩
    · have hne : (k == x) = true := by simp [hx]
      have HE : Hid ((Tr.node a k b).reb x = none) := by show _ = _; rw [Tr.reb, if_neg (by omega), if_neg (by omega)]
      rw [HE.out]
      clear HLT hx
      go_enter Tryz.func180, Tryz.ntmps180
      go_wp2
      go_ret3
      exact ⟨_, rfl, H.out, Below.refl _ _⟩
    · have hne : (k == x) = false := by simp; omega
      have hnl : ¬ x < k := by omega
      have HRB : Hid ((Tr.node a k b).reb x = (match b.reb x with
        | some p => some (.node a k p.1, p.2)
        | none => leanT a k b)) := by show _ = _; rw [Tr.reb, if_neg (by omega), if_pos hx]; rfl
      cases hr : b.reb x with
      | some p =>
        rw [hr] at HRB IHB
        have HE : Hid ((Tr.node a k b).reb x = some (.node a k p.1, p.2)) := HRB.out
        rw [HE.out]
        clear hr HRB HE HLT
        go_enter Tryz.func180, Tryz.ntmps180
        go_wp2_with fail
        refine IHB.out.mono ?_
        rintro e w2 ⟨q2, rfl, hr2, hb2⟩
        have hr2' : RT w2 q2 p.1 := hr2
        have d0 : w2.cell? ⟨g, 0, none⟩ = some (I k) := (hb2.cell (by exact hlt)).trans c0
        have d1 : w2.cell? ⟨g, 1, none⟩ = some (.pointer qa) := (hb2.cell (by exact hlt)).trans c1
        have d2 : w2.cell? ⟨g, 2, none⟩ = some (.pointer qb) := (hb2.cell (by exact hlt)).trans c2
        have HR2 := Lib.hid hr2'
        have HB2 := Lib.hid hb2
        have hgl : g < w2.heap.size := by have := hb2.size; omega
        clear hr2 hr2' hb2 IHB
        unfold baN baB
        go_wp2
        go_region
        all_goals go_wp2
        all_goals go_ret3
        all_goals exact ⟨_, rfl, (RT.box k (HA.out.below HB2.out) HR2.out).drew, (HB2.out.alloc HB2.out.size _).drew⟩
      | none =>
        rw [hr] at HRB IHB
        have HE : Hid ((Tr.node a k b).reb x = leanT a k b) := HRB.out
        rw [HE.out]
        clear hr HRB HE
        go_enter Tryz.func180, Tryz.ntmps180
        go_wp2_with fail
        refine IHB.out.mono ?_
        rintro e w2 ⟨q2, rfl, _, hb2⟩
        have d0 : w2.cell? ⟨g, 0, none⟩ = some (I k) := (hb2.cell (by exact hlt)).trans c0
        have d1 : w2.cell? ⟨g, 1, none⟩ = some (.pointer qa) := (hb2.cell (by exact hlt)).trans c1
        have d2 : w2.cell? ⟨g, 2, none⟩ = some (.pointer qb) := (hb2.cell (by exact hlt)).trans c2
        have hgl : g < w2.heap.size := by have := hb2.size; omega
        have HA2 := Lib.hid (HA.out.below hb2)
        have HB2' := Lib.hid (HB.out.below hb2)
        have HH2 := Lib.hid (H.out.below hb2)
        have HBW := Lib.hid hb2
        clear hb2 IHB
        unfold baN baB
        go_wp2
        go_region_held3 (fun W => W.cell? ⟨g, 0, none⟩ = some (I k) ∧ W.cell? ⟨g, 1, none⟩ = some (.pointer qa) ∧ W.cell? ⟨g, 2, none⟩ = some (.pointer qb))
          (first
            | exact ⟨e0, e1, e2⟩
            | exact ⟨f0, f1, f2⟩
            | exact ⟨d0, d1, d2⟩)
          (first
            | (go_at_call 177
               with_reducible refine (inOrder_any a qa na _ HA2.out.drew HNA.out (by omega)).mono ?_
               rintro e w3 ⟨A3, c3, rfl, _, hb3⟩
               have hB3 : Below w2.heap.size w2 w3 := (Below.refl _ _).drew.trans hb3
               have f0 : w3.cell? ⟨g, 0, none⟩ = some (I k) := (hB3.cell (by exact hgl)).trans d0
               have f1 : w3.cell? ⟨g, 1, none⟩ = some (.pointer qa) := (hB3.cell (by exact hgl)).trans d1
               have f2 : w3.cell? ⟨g, 2, none⟩ = some (.pointer qb) := (hB3.cell (by exact hgl)).trans d2
               have HB3 := Lib.hid hB3
               have HRB3 := Lib.hid (HB2'.out.below hB3)
               clear hb3 hB3)
            | (go_at_call 177
               with_reducible refine (inOrder_any b qb nb _ HRB3.out HNB.out (by omega)).mono ?_
               rintro e w4 ⟨A4, c4, rfl, _, hb4⟩
               have hB4 : Below w2.heap.size w2 w4 := HB3.out.trans (hb4.mono HB3.out.size)
               have e0 : w4.cell? ⟨g, 0, none⟩ = some (I k) := (hB4.cell (by exact hgl)).trans d0
               have e1 : w4.cell? ⟨g, 1, none⟩ = some (.pointer qa) := (hB4.cell (by exact hgl)).trans d1
               have e2 : w4.cell? ⟨g, 2, none⟩ = some (.pointer qb) := (hB4.cell (by exact hgl)).trans d2
               have HB4 := Lib.hid hB4
               clear hb4 hB4)
            | fail)
        all_goals
          have HH4 := Lib.hid (HH2.out.below HB4.out)
          have HBX := Lib.hid (below_next HBW.out HB4.out)
          obtain ⟨s, hs⟩ : ∃ s : Int, (if (na : Int) < (nb : Int) then (nb : Int) else (na : Int)) = s := ⟨_, rfl⟩
          have hs' : (if na < nb then (nb : Int) else (na : Int)) = s := by rw [← hs]; split <;> split <;> omega
          by_cases hle : 2 * (na + nb + 1) < 3 * max na nb
          · have HL2 : Hid (leanT a k b = some (ev (Tr.node a k b).ks, na + nb + 1)) := by show _ = _; rw [HLT.out, if_pos hle]
            have hs1 : 2 * ((na : Int) + (nb : Int) + 1) < 3 * s ∧ 0 ≤ s ∧ s ≤ 1000 := by rw [← hs]; split <;> omega
            obtain ⟨s1, s2, s3⟩ := hs1
            have hcast : ((na + nb + 1 : Nat) : Int) = (na : Int) + (nb : Int) + 1 := by omega
            have HIO := Lib.hid (inOrder_any (.node a k b) (some ⟨g, 0, none⟩) (na + 1 + nb) w4 HH4.out HSZ.out (by omega))
            clear hle HLT c0 c1 c2 d0 d1 d2 f0 f1 f2 e0 e1 e2
            have HCAST := Lib.hid hcast
            clear hcast
            go_wp2_with fail
            refine HIO.out.mono ?_
            rintro e w5 ⟨A5, c5, rfl, hi5, hb5⟩
            have HET := Lib.hid (EvenTree_any _ A5 (na + 1 + nb) c5 _ w5 (Nat.le_refl _) hi5 (by omega))
            have HB5 := Lib.hid (below_next HBX.out hb5)
            clear hi5 hb5 HIO
            go_wp2_with fail
            refine HET.out.mono ?_
            rintro e w6 ⟨q6, rfl, hr6, hb6⟩
            have HR6 := Lib.hid hr6
            have HB6 := Lib.hid (below_next HB5.out hb6)
            clear hr6 hb6 HET
            go_wp2
            go_ret3
            refine ⟨q6, ?_, by rw [HL2.out]; exact HR6.out, HB6.out⟩
            rw [HL2.out]
            show _ = Ending.returned (.tuple #[.pointer q6, I ((na + nb + 1 : Nat) : Int), .bool true])
            rw [HCAST.out]
            rfl
          · have HL2 : Hid (leanT a k b = none) := by show _ = _; rw [HLT.out, if_neg hle]
            have hs1 : ¬ 2 * ((na : Int) + (nb : Int) + 1) < 3 * s ∧ 0 ≤ s ∧ s ≤ 1000 := by rw [← hs]; split <;> omega
            obtain ⟨s1, s2, s3⟩ := hs1
            clear hle HLT c0 c1 c2 d0 d1 d2 f0 f1 f2 e0 e1 e2
            go_wp2
            go_ret3
            exact ⟨_, by rw [HL2.out]; rfl, by rw [HL2.out]; exact HH4.out, HBX.out⟩

end Go.Proofs.YtpnjnedfcdppaaaGreatDoor

/-
  hedgref.Goated: op by op, a tree made anew.
-/
namespace Go.Proofs.YtpnjnedfcdppaaaGreatDoor
open Go.RowKit

def RetGo (s : GS) (w : World) (e : Ending) (w' : World) : Prop := ∃ q, e = .returned (.tuple #[.pointer q, I (s.built : Int)]) ∧ RT w' q s.t ∧ Below w.heap.size w w'
theorem goP_ba (s : GS) (x : Int) (M D d : Nat) (hM : max s.most (s.t.ins x).size = M) (hD : dpst M = D) (hd : (s.t.ins x).dpx x = d) :
    goP s x = if D < d then ⟨baT (s.t.ins x) ((s.t.ins x).reb x), M, s.built + baN ((s.t.ins x).reb x)⟩ else ⟨s.t.ins x, M, s.built⟩ := by
  unfold goP
  rw [hM, hD, hd]
  split
  · cases (s.t.ins x).reb x <;> rfl
  · rfl

set_option maxRecDepth 100000 in
set_option maxHeartbeats 8000000 in
theorem Goated_any (A A' : Option Addr) (n c c' : Nat) (ops : List OP) (w : World) (h : OS w A n c ops) (h' : AS w A' n c' (runR ops).2) (hn : n ≤ 300) :
    Calls Tryz.prog 114 #[.slice A n c, .slice A' n c'] w (RetGo (goT ops) w) := by
  have H1 := Lib.hid h
  have HA := Lib.hid h'
  have HL := Lib.hid h.len
  clear h h'
  go_enter Tryz.func114, Tryz.ntmps114
  go_wp2
  go_loopg [6, 7, 8, 18] n (fun m p mo bu i wr => ∃ (k : Nat) (q : Option Addr), k ≤ n ∧ n - k ≤ m ∧ i = .int .i64 k ∧ p = .pointer q ∧ mo = .int .i64 ((goT (ops.take k)).most : Int) ∧ bu = .int .i64 ((goT (ops.take k)).built : Int) ∧ RT wr q (goT (ops.take k)).t ∧ Below w.heap.size w wr)
  case atStart => exact ⟨0, none, Nat.zero_le _, by omega, rfl, rfl, rfl, rfl, rfl, Below.refl _ _⟩
  case round =>
    obtain ⟨k, q, hk, hkm, rfl, rfl, rfl, rfl, hR, hnx⟩ := hrel
    have HNX := Lib.hid hnx
    have HR := Lib.hid hR
    have hsz := hnx.size
    clear hnx hR
    by_cases hlt : k < n
    · obtain ⟨b, off, rfl, hb, hc⟩ := H1.out.at_ (by omega)
      obtain ⟨ba, offa, rfl, hba, hca⟩ := HA.out.at_ (by omega)
      have hkl : k < ops.length := by rw [HL.out]; exact hlt
      have hc0 : wr.cell? ⟨b, off + k * 3, none⟩ = some (I ops[k].1) := (HNX.out.cell (by exact hb)).trans (hc k hlt).1
      have hc1 : wr.cell? ⟨b, off + k * 3 + 1, none⟩ = some (I ops[k].2.1) := (HNX.out.cell (by exact hb)).trans (hc k hlt).2.1
      have hc2 : wr.cell? ⟨b, off + k * 3 + 2, none⟩ = some (I ops[k].2.2) := (HNX.out.cell (by exact hb)).trans (hc k hlt).2.2
      have hans := runR_ans ops k hkl
      have hcak := hca k hlt
      rw [hans] at hcak
      have hst := (goL_succ ops k hkl).1
      have hgb := go_bounds (ops.take k) (by rw [List.length_take]; omega)
      have hji := (go_inv (ops.take k)).same
      have hroom := fun (key : Int) => same_room hji key
      have hways := hji.ways ops[k].1 ops[k].2.1 ops[k].2.2
      generalize hs : goT (ops.take k) = s at *
      have hroom2 : (doA (runR (ops.take k)).1 ops[k].1 ops[k].2.1).e = 0 → ops[k].1 = 1 → (doA (runR (ops.take k)).1 ops[k].1 ops[k].2.1).b = false → s.t.size + 1 ≤ 200 := fun e1 e2 e3 => by
        rw [e2] at e1 e3
        exact (hroom _ ops[k].2.2 e1 e3).2
      generalize doA (runR (ops.take k)).1 ops[k].1 ops[k].2.1 = a at hcak hways hst hroom2
      generalize ops[k] = o at hc0 hc1 hc2 hways hst hroom2
      obtain ⟨kind, key, val⟩ := o
      simp only at hc0 hc1 hc2 hways hroom2
      have ha0 : wr.cell? ⟨ba, offa + k * 4, none⟩ = some (I a.e) := (HNX.out.cell (by exact hba)).trans hcak.1
      have ha1 : wr.cell? ⟨ba, offa + k * 4 + 1, none⟩ = some (I a.k) := (HNX.out.cell (by exact hba)).trans hcak.2.1
      have ha2 : wr.cell? ⟨ba, offa + k * 4 + 2, none⟩ = some (I a.v) := (HNX.out.cell (by exact hba)).trans hcak.2.2.1
      have ha3 : wr.cell? ⟨ba, offa + k * 4 + 3, none⟩ = some (.bool a.b) := (HNX.out.cell (by exact hba)).trans hcak.2.2.2
      have HST := Lib.hid hst
      have HGB := Lib.hid hgb
      have hmo := hgb.most
      have hbu := hgb.built
      have hbw : b < wr.heap.size := by omega
      have hbaw : ba < wr.heap.size := by omega
      have hbl0 := ((Below.refl wr.heap.size wr).alloc (Nat.le_refl _) (opO kind key val)).alloc (by simp) (anO a)
      have HR2 := Lib.hid (HR.out.below hbl0)
      have HN2 := Lib.hid ((HNX.out.alloc hsz (opO kind key val)).alloc (by simp; omega) (anO a))
      clear hc hca hcak hans hst hgb hji hroom hs hbl0
      obtain ⟨ae, ak, av, ab⟩ := a
      simp only at ha0 ha1 ha2 ha3 hways hroom2
      rcases hways with ⟨_, e2⟩ | ⟨rfl, rfl, rfl, e4, _⟩ | ⟨rfl, rfl, rfl, e4, _⟩ | ⟨rfl, rfl, rfl, e4, _⟩ | ⟨rfl, rfl, rfl, e4, _⟩ | ⟨e1, e2, _⟩
      · -- refused
        have hne := oerr_ne e2
        have HS := Lib.hid (show goT (ops.take (k + 1)) = s by rw [HST.out]; simp [goR, e2])
        clear e2 HST hroom2
        go_wp2
        go_roundg (gk - 1)
        case measure => omega
        case rel => exact ⟨k + 1, q, by omega, by omega, by go_num, rfl, by rw [HS.out], by rw [HS.out], by rw [HS.out]; exact HR2.out, HN2.out⟩
      · -- put: it was there
        have HS := Lib.hid (show goT (ops.take (k + 1)) = s by rw [HST.out]; simp [goR])
        clear e4 HST hroom2
        go_wp2
        go_roundg (gk - 1)
        case measure => omega
        case rel => exact ⟨k + 1, q, by omega, by omega, by go_num, rfl, by rw [HS.out], by rw [HS.out], by rw [HS.out]; exact HR2.out, HN2.out⟩
      · -- put: it comes
        have hsz2 := hroom2 rfl rfl rfl
        obtain ⟨N, hN⟩ : ∃ N, (s.t.ins key).size = N := ⟨_, rfl⟩
        have hN2 : N ≤ 200 := by rw [← hN, size_ins e4]; exact hsz2
        obtain ⟨M, hM⟩ : ∃ M, max s.most (s.t.ins key).size = M := ⟨_, rfl⟩
        have hM2 : M ≤ 200 := by rw [← hM, hN]; omega
        obtain ⟨D, hD⟩ : ∃ D, dpst M = D := ⟨_, rfl⟩
        obtain ⟨d, hd⟩ : ∃ d, (s.t.ins key).dpx key = d := ⟨_, rfl⟩
        have HS : Hid (goT (ops.take (k + 1)) = if D < d then ⟨baT (s.t.ins key) ((s.t.ins key).reb key), M, s.built + baN ((s.t.ins key).reb key)⟩ else ⟨s.t.ins key, M, s.built⟩) := by
          show _ = _
          rw [HST.out, show goR s (1, key, val) ⟨0, ak, av, false⟩ = goP s key by simp [goR]]
          exact goP_ba s key M D d hM hD hd
        have hu2 := up_ins (x := key) HGB.out.up
        have hx2 : key ∈ (s.t.ins key).ks := mem_ins.2 (.inl rfl)
        have hmx : (if (s.most : Int) < (N : Int) then (N : Int) else (s.most : Int)) = (M : Int) := by rw [hN] at hM; split <;> omega
        have hmx' : (if s.most < N then (N : Int) else (s.most : Int)) = (M : Int) := by rw [hN] at hM; split <;> omega
        have HLF := Lib.hid (Leaf_any key s.t q _ HR2.out)
        have HDI := Lib.hid (fun q' w' (h : RT w' q' (s.t.ins key)) => depthIn_any key (s.t.ins key) q' w' h hu2 hx2 (by omega))
        have HIO := Lib.hid (fun q' w' (h : RT w' q' (s.t.ins key)) => inOrder_any (s.t.ins key) q' N w' h hN (by omega))
        have HBA := Lib.hid (fun q' w' (h : RT w' q' (s.t.ins key)) => builtAnew_any key (s.t.ins key) q' w' h (by omega))
        have HDO := Lib.hid (fun w' => DeepestOf_any M w' hM2)
        rw [hd] at HDI
        rw [hD] at HDO
        have hdb : d ≤ 200 := by
          rw [← hd]
          have : ∀ t : Tr, t.dpx key ≤ t.size := fun t => by
            induction t with
            | nil => exact Nat.le_refl _
            | node a k b iha ihb =>
              simp only [Tr.dpx, Tr.size]
              split
              · omega
              · split <;> omega
          have := this (s.t.ins key)
          omega
        have hDb : D ≤ 30 := by rw [← hD]; exact dpS_le M 30
        have hnb : ∀ r, (s.t.ins key).reb key = r → baN r ≤ 200 := fun r hr => by
          cases r with
          | none => exact Nat.zero_le _
          | some p => have := (reb_bd hr).1; show p.2 ≤ 200; omega
        obtain ⟨r, hr⟩ : ∃ r, (s.t.ins key).reb key = r := ⟨_, rfl⟩
        have hnb2 := hnb r hr
        rw [hr] at HS HBA
        generalize s.t.ins key = t2 at *
        generalize s.most = mo at *
        generalize s.built = bu at *
        clear e4 HST hroom2 hN hM hD hd hu2 hx2 hnb hr hsz2 HGB
        go_wp2_with fail
        refine HLF.out.mono ?_
        rintro e w2 ⟨q2, rfl, hr2, hb2⟩
        have HR3 := Lib.hid hr2
        have HB3 := Lib.hid (below_next HN2.out hb2)
        have hk2 : w2.cell? ⟨wr.heap.size, 1, none⟩ = some (I key) := (hb2.cell (by simp; omega)).trans (by rw [World.cell?_alloc_old _ _ _ (by simp)]; simp)
        have hwl2 : wr.heap.size < w2.heap.size := by have := hb2.size; simp at this; omega
        clear hr2 hb2 HLF
        go_wp2_with fail
        refine (HIO.out q2 w2 HR3.out).mono ?_
        rintro e w3 ⟨A3, c3, rfl, _, hb3⟩
        have HR4 := Lib.hid (HR3.out.below hb3)
        have HB4 := Lib.hid (below_next HB3.out hb3)
        have hk3 : w3.cell? ⟨wr.heap.size, 1, none⟩ = some (I key) := (hb3.cell (by exact hwl2)).trans hk2
        have hwl3 : wr.heap.size < w3.heap.size := by have := hb3.size; omega
        clear hb3 HIO hk2
        go_wp2_with fail
        refine (HDI.out q2 w3 HR4.out).mono ?_
        rintro e w4 ⟨rfl, hw4⟩
        subst hw4
        go_wp2_with fail
        refine (HDO.out _).mono ?_
        rintro e w5 ⟨rfl, hw5⟩
        subst hw5
        by_cases hcmp : D < d
        · rw [if_pos hcmp] at HS
          have hcmp' : (D : Int) < (d : Int) := by omega
          clear hcmp
          go_wp2_with fail
          refine (HBA.out q2 _ HR4.out).mono ?_
          rintro e w6 ⟨q6, rfl, hr6, hb6⟩
          have HR6 := Lib.hid hr6
          have HB6 := Lib.hid (below_next HB4.out hb6)
          clear hr6 hb6 HBA
          generalize baN r = nn at *
          generalize baT t2 r = tt at *
          generalize baB r = bb at *
          go_wp2
          go_roundg (gk - 1)
          case measure => omega
          case rel => exact ⟨k + 1, q6, by omega, by omega, by go_num, rfl, by rw [HS.out], by rw [HS.out]; go_num, by rw [HS.out]; exact HR6.out, HB6.out⟩
        · rw [if_neg hcmp] at HS
          have hcmp' : ¬ (D : Int) < (d : Int) := by omega
          clear hcmp
          go_wp2
          go_roundg (gk - 1)
          case measure => omega
          case rel => exact ⟨k + 1, q2, by omega, by omega, by go_num, rfl, by rw [HS.out], by rw [HS.out], by rw [HS.out]; exact HR4.out, HB4.out⟩
      · -- taken away
        obtain ⟨N, hN⟩ : ∃ N, (s.t.del key).size = N := ⟨_, rfl⟩
        have hN2 : N ≤ 200 := by have := (del_all HGB.out.up e4).1; have := HGB.out.size; omega
        have HS : Hid (goT (ops.take (k + 1)) = if 3 * N < 2 * s.most then ⟨ev (s.t.del key).ks, N, s.built + N⟩ else ⟨s.t.del key, s.most, s.built⟩) := by
          show _ = _
          rw [HST.out, show goR s (3, key, val) ⟨0, ak, av, true⟩ = goC s key by simp [goR]]
          unfold goC
          rw [hN]
        have HUL := Lib.hid (Unleafed_any s.t key q _ HR2.out)
        have HIO := Lib.hid (fun q' w' (h : RT w' q' (s.t.del key)) => inOrder_any (s.t.del key) q' N w' h hN (by omega))
        generalize s.t.del key = t2 at *
        generalize s.most = mo at *
        generalize s.built = bu at *
        clear e4 HST hroom2 hN HGB
        go_wp2_with fail
        refine HUL.out.mono ?_
        rintro e w2 ⟨q2, rfl, hr2, hb2⟩
        have HR3 := Lib.hid hr2
        have HB3 := Lib.hid (below_next HN2.out hb2)
        clear hr2 hb2 HUL
        go_wp2_with fail
        refine (HIO.out q2 w2 HR3.out).mono ?_
        rintro e w3 ⟨A3, c3, rfl, _, hb3⟩
        have HR4 := Lib.hid (HR3.out.below hb3)
        have HB4 := Lib.hid (below_next HB3.out hb3)
        clear hb3
        by_cases hcmp : 3 * N < 2 * mo
        · rw [if_pos hcmp] at HS
          have hcmp' : 3 * (N : Int) < 2 * (mo : Int) := by omega
          clear hcmp
          go_wp2_with fail
          refine (HIO.out q2 w3 HR4.out).mono ?_
          rintro e w4 ⟨A4, c4, rfl, hi4, hb4⟩
          have HET := Lib.hid (EvenTree_any _ A4 N c4 _ w4 (Nat.le_refl _) hi4 (by omega))
          have HB5 := Lib.hid (below_next HB4.out hb4)
          clear hi4 hb4 HIO
          go_wp2_with fail
          refine HET.out.mono ?_
          rintro e w5 ⟨q5, rfl, hr5, hb5⟩
          have HR5 := Lib.hid hr5
          have HB6 := Lib.hid (below_next HB5.out hb5)
          clear hr5 hb5 HET
          go_wp2
          go_roundg (gk - 1)
          case measure => omega
          case rel => exact ⟨k + 1, q5, by omega, by omega, by go_num, rfl, by rw [HS.out], by rw [HS.out]; go_num, by rw [HS.out]; exact HR5.out, HB6.out⟩
        · rw [if_neg hcmp] at HS
          have hcmp' : ¬ 3 * (N : Int) < 2 * (mo : Int) := by omega
          clear hcmp
          go_wp2
          go_roundg (gk - 1)
          case measure => omega
          case rel => exact ⟨k + 1, q2, by omega, by omega, by go_num, rfl, by rw [HS.out], by rw [HS.out], by rw [HS.out]; exact HR4.out, HB4.out⟩
      · -- taken away: it was not there
        have HS := Lib.hid (show goT (ops.take (k + 1)) = s by rw [HST.out]; simp [goR])
        clear e4 HST hroom2
        go_wp2
        go_roundg (gk - 1)
        case measure => omega
        case rel => exact ⟨k + 1, q, by omega, by omega, by go_num, rfl, by rw [HS.out], by rw [HS.out], by rw [HS.out]; exact HR2.out, HN2.out⟩
      · by_cases hae : ae = 0
        · subst hae
          have HS := Lib.hid (show goT (ops.take (k + 1)) = s by rw [HST.out]; simp [goR, e1, e2])
          have h1 : (kind == 1) = false := by simpa using e1
          have h3 : (kind == 3) = false := by simpa using e2
          clear e1 e2 HST hroom2
          go_wp2
          go_roundg (gk - 1)
          case measure => omega
          case rel => exact ⟨k + 1, q, by omega, by omega, by go_num, rfl, by rw [HS.out], by rw [HS.out], by rw [HS.out]; exact HR2.out, HN2.out⟩
        · have hne := oerr_ne hae
          have HS := Lib.hid (show goT (ops.take (k + 1)) = s by rw [HST.out]; simp [goR, hae])
          clear e1 e2 HST hae hroom2
          go_wp2
          go_roundg (gk - 1)
          case measure => omega
          case rel => exact ⟨k + 1, q, by omega, by omega, by go_num, rfl, by rw [HS.out], by rw [HS.out], by rw [HS.out]; exact HR2.out, HN2.out⟩
    · have ht : ops.take k = ops := List.take_of_length_le (by rw [HL.out]; omega)
      rw [ht] at HR ⊢
      go_wp2
      go_ret2
      exact ⟨q, rfl, HR.out, HNX.out⟩

end Go.Proofs.YtpnjnedfcdppaaaGreatDoor
