/-
  package hedgref: EvenTree, inOrder, depthIn, DeepestOf.
-/
import Derived.Test.YtolgncaaffmmnaaDoorGRefS
import Derived.Test.YtolgncaaffmmnaaDoorOLeaf
import Derived.Test.YtolgncaaffmmnaaDoorAppPAll
namespace Go.Proofs.YtolgncaaffmmnaaDoor
open Go.RowKit

/-- a list of numbers: the one in the midst -/
theorem ev_at {l : List Int} {n : Nat} (hl : l.length = n) (h0 : 0 < n) : ∃ x, l[n / 2]? = some x ∧ ev l = .node (ev (l.take (n / 2))) x (ev (l.drop (n / 2 + 1))) := by
  have hm : n / 2 < l.length := by omega
  refine ⟨l[n / 2], List.getElem?_eq_getElem hm, ?_⟩
  rw [ev_eq (List.length_pos_iff.1 (by omega)), hl, List.getElem?_eq_getElem hm]
  rfl

theorem EvenTree_zero (A : Option Addr) (c : Nat) (w : World) : Calls Tryd.prog 14 #[.slice A 0 c] w fun e w' => e = .returned (.pointer none) ∧ w' = w := by
  go_enter Tryd.func14, Tryd.ntmps14
  go_wp2
  go_ret
  exact ⟨rfl, rfl⟩

set_option maxRecDepth 100000 in
set_option maxHeartbeats 8000000 in
theorem EvenTree_any : ∀ (m : Nat) (A : Option Addr) (n c : Nat) (l : List Int) (w : World), n ≤ m → IS w A n c l → n ≤ 1000 → Calls Tryd.prog 14 #[.slice A n c] w (RetT (ev l) w) := by
  intro m
  induction m with
  | zero =>
    intro A n c l w hm h hn
    obtain rfl : n = 0 := by omega
    have hl : l = [] := List.eq_nil_of_length_eq_zero h.len
    subst hl
    refine (EvenTree_zero A c w).mono ?_
    rintro e w' ⟨rfl, rfl⟩
    exact ⟨none, rfl, rfl, Below.refl _ _⟩
  | succ m ih =>
    intro A n c l w hm h hn
    rcases Nat.eq_zero_or_pos n with h0 | h0
    · subst h0
      have hl : l = [] := List.eq_nil_of_length_eq_zero h.len
      subst hl
      refine (EvenTree_zero A c w).mono ?_
      rintro e w' ⟨rfl, rfl⟩
      exact ⟨none, rfl, rfl, Below.refl _ _⟩
    · obtain ⟨x, hx, hev⟩ := ev_at h.len h0
      obtain ⟨y, hy⟩ : ∃ y, n / 2 = y := ⟨_, rfl⟩
      rw [hy] at hx hev
      have hcap := h.rd.1
      obtain ⟨b, off, rfl, hb, hc⟩ := h.at_ h0
      have hyn : y < n := by omega
      have c0 : w.cell? ⟨b, off + y, none⟩ = some (I x) := by
        have hyl : y < l.length := by rw [h.len]; exact hyn
        rw [List.getElem?_eq_getElem hyl] at hx
        have := hc y hyn
        rw [Option.some.inj hx] at this
        exact this
      have HTA : Hid (∀ w', Below w.heap.size w w' → Calls Tryd.prog 14 #[.slice (some ⟨b, off, none⟩) y c] w' (RetT (ev (l.take y)) w')) := fun w' hb' => ih _ y c (l.take y) w' (by omega) ((h.below hb').take y (by omega)) (by omega)
      have HTB : Hid (∀ (w' : World) (sp : Option Addr) (c' : Nat), Below w.heap.size w w' → (y + 1 < n → sp = some ⟨b, off + (y + 1), none⟩) → n - (y + 1) ≤ c' → Calls Tryd.prog 14 #[.slice sp ((n - (y + 1) : Nat)) c'] w' (RetT (ev (l.drop (y + 1))) w')) := fun w' sp c' hb' hsp hc' =>
        ih sp _ c' (l.drop (y + 1)) w' (by omega) ((h.below hb').drop (y + 1) (by omega) sp (fun hlt b' off' e' => by cases e'; exact hsp hlt) hc') (by omega)
      rw [hev]
      have hn0 : ((n : Int) == 0) = false := by simp; omega
      have hq1 : (n : Int) / 2 = (y : Int) := by omega
      have hq2 : (n : Int).tdiv 2 = (y : Int) := by rw [Int.tdiv_eq_ediv_of_nonneg (by omega)]; exact hq1
      have hyc : y + 1 ≤ n := by omega
      have i0 : (0 : Int) ≤ (y : Int) := by omega
      have i1 : (y : Int) ≤ (c : Int) := by omega
      have i2 : (y : Int) < (n : Int) := by omega
      have i3 : IntKind.i64.wrap ((y : Int) + 1) = (y : Int) + 1 := IntWalk.i64_in _ (by omega)
      have i4 : (0 : Int) ≤ (y : Int) + 1 := by omega
      have i5 : (y : Int) + 1 ≤ (n : Int) := by omega
      have i6 : (n : Int) ≤ (c : Int) := by omega
      have i7 : ((y : Int) + 1).toNat = y + 1 := by omega
      have i8 : y ≤ c := by omega
      have i9 : (0 : Int) ≤ (n : Int) := by omega
      have hnil : c = y + 1 → ev (l.drop (y + 1)) = .nil := fun hcy => by
        rw [List.drop_eq_nil_of_le (by rw [h.len]; omega)]
        rfl
      generalize ev (l.take y) = ta at *
      generalize ev (l.drop (y + 1)) = tb at *
      clear ih h hc hx hev hy hm
      by_cases hcy : c = y + 1
      · have hjc : n - c = 0 := by omega
        obtain rfl := hnil hcy
        have z0 : ((y : Int) + 1).toNat = c := by omega
        clear hcy i7 HTB hnil
        go_enter Tryd.func14, Tryd.ntmps14
        go_wp2
        go_region_held3 (fun W => W.cell? ⟨b, off + y, none⟩ = some (I x))
          (first
            | exact d0
            | exact ck d0 _
            | exact c0)
          (first
            | (go_at_call 14
               with_reducible refine (EvenTree_zero _ _ _).mono ?_
               rintro e w3 ⟨rfl, rfl⟩)
            | (go_at_call 14
               with_reducible refine (HTA.out _ (Below.refl _ _).drew).mono ?_
               rintro e w2 ⟨q2, rfl, hr2, hb2⟩
               have d0 : w2.cell? ⟨b, off + y, none⟩ = some (I x) := (hb2.cell (by exact hb)).trans c0
               have HR2 := Lib.hid hr2
               have HB2 : Hid (Below w.heap.size w w2) := (Below.refl _ _).drew.trans hb2
               clear hr2 hb2))
        all_goals go_wp2
        all_goals go_ret
        all_goals exact ⟨_, rfl, RT.box x HR2.out (b := .nil) rfl, HB2.out.alloc HB2.out.size _⟩
      · clear hnil
        go_enter Tryd.func14, Tryd.ntmps14
        go_wp2
        go_region_held3 (fun W => W.cell? ⟨b, off + y, none⟩ = some (I x))
          (first
            | exact d0
            | exact e0
            | exact ck e0 _
            | exact c0)
          (first
            | (go_at_call 14
               with_reducible refine (HTA.out _ (Below.refl _ _).drew).mono ?_
               rintro e w2 ⟨q2, rfl, hr2, hb2⟩
               have d0 : w2.cell? ⟨b, off + y, none⟩ = some (I x) := (hb2.cell (by exact hb)).trans c0
               have HR2 := Lib.hid hr2
               have HB2 : Hid (Below w.heap.size w w2) := (Below.refl _ _).drew.trans hb2
               clear hr2 hb2)
            | (go_at_call 14
               refine (HTB.out _ _ _ HB2.out (by intro hlt; first | (exfalso; omega) | rfl) (by omega)).mono ?_
               rintro e w3 ⟨q3, rfl, hr3, hb3⟩
               have e0 : w3.cell? ⟨b, off + y, none⟩ = some (I x) := (hb3.cell (by have := HB2.out.size; show b < _; omega)).trans d0
               have HR3 := Lib.hid hr3
               have HR23 : Hid (RT w3 q2 ta) := HR2.out.below hb3
               have HB3 : Hid (Below w.heap.size w w3) := HB2.out.trans (hb3.mono HB2.out.size)
               clear hr3 hb3))
        all_goals go_wp2
        all_goals go_ret
        all_goals exact ⟨_, rfl, RT.box x HR23.out HR3.out, HB3.out.alloc HB3.out.size _⟩

set_option maxHeartbeats 1000000 in
theorem depthIn_any (x : Int) (t : Tr) : ∀ (q : Option Addr) (w : World), RT w q t → Up t.ks → x ∈ t.ks → t.size ≤ 1000 → Calls Tryd.prog 37 #[.pointer q, I x] w fun e w' => e = .returned (I (t.dpx x : Int)) ∧ w' = w := by
  induction t with
  | nil => intro q w _ _ h; simp [Tr.ks] at h
  | node a k b iha ihb =>
    intro q w h hu hx hz
    obtain ⟨u1, u2, u3, u4⟩ := up_node.1 hu
    rw [mem_node] at hx
    simp only [Tr.size] at hz
    obtain ⟨g, qa, qb, rfl, hg, ha, hb⟩ := h
    obtain ⟨hlt, c0, c1, c2⟩ := tree_cells hg
    have hbd : ∀ t : Tr, t.dpx x ≤ t.size := fun t => by
      induction t with
      | nil => exact Nat.le_refl _
      | node a k b iha ihb =>
        simp only [Tr.dpx, Tr.size]
        split
        · omega
        · split <;> omega
    rcases Int.lt_trichotomy x k with h1 | h1 | h1
    · have hxa : x ∈ a.ks := by
        rcases hx with hx | hx | hx
        · exact hx
        · omega
        · have := u4 x hx; omega
      have HC := Lib.hid (iha qa w ha u1 hxa (by omega))
      have HE : Hid ((Tr.node a k b).dpx x = a.dpx x + 1) := by show _ = _; rw [Tr.dpx, if_pos h1]
      have hd := hbd a
      rw [HE.out]
      generalize a.dpx x = d at *
      clear hg ha hb iha ihb hx hxa u1 u2 u3 u4 hu hbd
      go_enter Tryd.func37, Tryd.ntmps37
      go_wp2_with fail
      refine HC.out.mono ?_
      rintro e w1 ⟨rfl, hw1⟩
      subst hw1
      go_wp2
      go_ret
      exact ⟨ret_int (by omega), rfl⟩
    · have HE : Hid ((Tr.node a k b).dpx x = 0) := by show _ = _; rw [Tr.dpx, if_neg (by omega), if_neg (by omega)]
      have hn1 : ¬ x < k := by omega
      have hn2 : ¬ k < x := by omega
      rw [HE.out]
      clear hg ha hb iha ihb hx u1 u2 u3 u4 hu hbd h1
      go_enter Tryd.func37, Tryd.ntmps37
      go_wp2
      go_ret
      exact ⟨rfl, rfl⟩
    · have hxb : x ∈ b.ks := by
        rcases hx with hx | hx | hx
        · have := u3 x hx; omega
        · omega
        · exact hx
      have HC := Lib.hid (ihb qb w hb u2 hxb (by omega))
      have HE : Hid ((Tr.node a k b).dpx x = b.dpx x + 1) := by show _ = _; rw [Tr.dpx, if_neg (by omega), if_pos h1]
      have hn1 : ¬ x < k := by omega
      have hd := hbd b
      rw [HE.out]
      generalize b.dpx x = d at *
      clear hg ha hb iha ihb hx hxb u1 u2 u3 u4 hu hbd
      go_enter Tryd.func37, Tryd.ntmps37
      go_wp2_with fail
      refine HC.out.mono ?_
      rintro e w1 ⟨rfl, hw1⟩
      subst hw1
      go_wp2
      go_ret
      exact ⟨ret_int (by omega), rfl⟩

/-- a power by a loop -/
theorem power_any (b n : Nat) (w : World) (hb : b ≤ 3) (hb1 : 1 ≤ b) (hn : n ≤ 30) :
    Calls Tryd.prog 33 #[I b, I n] w fun e w' => e = .returned (I ((b ^ n : Nat) : Int)) ∧ w' = w := by
  go_enter Tryd.func33, Tryd.ntmps33
  go_wp2
  go_loopg [5, 7] n (fun m u i wr => wr = w ∧ ∃ k : Nat, k ≤ n ∧ n - k ≤ m ∧ i = .int .i64 k ∧ u = .int .i64 ((b ^ k : Nat) : Int))
  case atStart => exact ⟨rfl, 0, Nat.zero_le _, by omega, rfl, rfl⟩
  case round =>
    obtain ⟨rfl, k, hk, hkm, rfl, rfl⟩ := hrel
    by_cases hlt : k < n
    · have hbd : b ^ k ≤ 3 ^ 30 := Nat.le_trans (Nat.pow_le_pow_left hb k) (Nat.pow_le_pow_right (by decide) (by omega))
      have h30 : 3 ^ 30 = 205891132094649 := by decide +kernel
      rw [h30] at hbd
      have HUP := Lib.hid (Nat.pow_succ b k)
      obtain ⟨y, hy⟩ : ∃ y, b ^ k = y := ⟨_, rfl⟩
      rw [hy] at hbd HUP ⊢
      have hyb : y * b ≤ 205891132094649 * 3 := Nat.mul_le_mul hbd hb
      obtain ⟨z, hz⟩ : ∃ z, y * b = z := ⟨_, rfl⟩
      have hz' : (y : Int) * (b : Int) = (z : Int) := by rw [← hz]; simp
      rw [hz] at hyb HUP
      clear hy hz h30
      go_wp2
      go_roundg (gk - 1)
      case measure => omega
      case rel => exact ⟨rfl, k + 1, by omega, by omega, by go_num, by rw [HUP.out]⟩
    · obtain rfl : k = n := by omega
      go_wp2
      go_ret
      exact ⟨rfl, rfl⟩

set_option maxRecDepth 100000 in
set_option maxHeartbeats 2000000 in
theorem DeepestOf_any (m : Nat) (w : World) (hm : m ≤ 200) :
    Calls Tryd.prog 16 #[I m] w fun e w' => e = .returned (I (dpst m : Int)) ∧ w' = w := by
  have HP3 := Lib.hid (fun (n : Nat) (hn : n ≤ 30) (w : World) => power_any 3 n w (by omega) (by omega) hn)
  have HP2 := Lib.hid (fun (n : Nat) (hn : n ≤ 30) (w : World) => power_any 2 n w (by omega) (by omega) hn)
  go_enter Tryd.func16, Tryd.ntmps16
  go_wp2
  go_loopg [4, 5] 30 (fun q u i wr => wr = w ∧ ∃ k : Nat, k ≤ 30 ∧ 30 - k ≤ q ∧ i = .int .i64 ((k : Int) + 1) ∧ u = .int .i64 (dpS m k : Int))
  case atStart => exact ⟨rfl, 0, by omega, by omega, rfl, rfl⟩
  case round =>
    obtain ⟨rfl, k, hk, hkq, rfl, rfl⟩ := hrel
    by_cases hlt : k < 30
    · have HST := Lib.hid (show dpS m (k + 1) = if 3 ^ (k + 1) ≤ m * 2 ^ (k + 1) then k + 1 else dpS m k from rfl)
      have hk31 : (k : Int) + 1 ≤ 30 := by omega
      have h3 : 3 ^ (k + 1) ≤ 3 ^ 30 := Nat.pow_le_pow_right (by decide) (by omega)
      have h2 : 2 ^ (k + 1) ≤ 2 ^ 30 := Nat.pow_le_pow_right (by decide) (by omega)
      have e3 : 3 ^ 30 = 205891132094649 := by decide +kernel
      have e2 : 2 ^ 30 = 1073741824 := by decide +kernel
      rw [e3] at h3
      rw [e2] at h2
      rcases Nat.eq_zero_or_pos m with h0 | h0
      · subst h0
        have HS : Hid (dpS 0 (k + 1) = dpS 0 k) := by
          show _ = _
          rw [HST.out, if_neg]
          have : 0 < 3 ^ (k + 1) := Nat.pow_pos (by decide)
          omega
        clear HST h3 h2 e3 e2
        generalize dpS 0 k = d at *
        go_wp2
        go_roundg (gk - 1)
        case measure => omega
        case rel => exact ⟨rfl, k + 1, by omega, by omega, by go_num, by rw [HS.out]⟩
      · have C3 := Lib.hid (HP3.out (k + 1) (by omega))
        have C2 := Lib.hid (HP2.out (k + 1) (by omega))
        have hm0 : (0 : Int) < (m : Int) := by omega
        obtain ⟨x, hx⟩ : ∃ x, 3 ^ (k + 1) = x := ⟨_, rfl⟩
        obtain ⟨y, hy⟩ : ∃ y, 2 ^ (k + 1) = y := ⟨_, rfl⟩
        rw [hx] at h3 HST C3
        rw [hy] at h2 HST C2
        have hmy : m * y ≤ 200 * 1073741824 := Nat.mul_le_mul hm h2
        obtain ⟨z, hz⟩ : ∃ z, m * y = z := ⟨_, rfl⟩
        have hz' : (m : Int) * (y : Int) = (z : Int) := by rw [← hz]; simp
        rw [hz] at hmy HST
        clear hx hy hz e3 e2
        generalize dpS m k = d at *
        by_cases hle : x ≤ z
        · have HS : Hid (dpS m (k + 1) = k + 1) := by show _ = _; rw [HST.out, if_pos hle]
          have hle' : (x : Int) ≤ (z : Int) := by omega
          clear HST hle
          go_wp2_with fail
          refine (C3.out _).mono ?_
          rintro e w1 ⟨rfl, hw1⟩
          subst hw1
          go_wp2_with fail
          refine (C2.out _).mono ?_
          rintro e w2 ⟨rfl, hw2⟩
          subst hw2
          go_wp2
          go_roundg (gk - 1)
          case measure => omega
          case rel => exact ⟨rfl, k + 1, by omega, by omega, by go_num, by rw [HS.out]; go_num⟩
        · have HS : Hid (dpS m (k + 1) = d) := by show _ = _; rw [HST.out, if_neg hle]
          have hle' : ¬ (x : Int) ≤ (z : Int) := by omega
          clear HST hle
          go_wp2_with fail
          refine (C3.out _).mono ?_
          rintro e w1 ⟨rfl, hw1⟩
          subst hw1
          go_wp2_with fail
          refine (C2.out _).mono ?_
          rintro e w2 ⟨rfl, hw2⟩
          subst hw2
          go_wp2
          go_roundg (gk - 1)
          case measure => omega
          case rel => exact ⟨rfl, k + 1, by omega, by omega, by go_num, by rw [HS.out]⟩
    · obtain rfl : k = 30 := by omega
      go_wp2
      go_ret
      exact ⟨rfl, rfl⟩

end Go.Proofs.YtolgncaaffmmnaaDoor
