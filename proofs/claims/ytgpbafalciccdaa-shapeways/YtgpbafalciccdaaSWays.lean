/-
  The walk of the law ShapeWays.
-/
import Derived.Test.YtgpbafalciccdaaSTurned
namespace Go.Proofs.Ytgpbafalciccdaa
open Go.RowKit

/-- the first of the highest left ones among the first k; -1, if there is none -/
def BestTo (L : PL) (k : Nat) (a : Int) : Prop :=
  (a = -1 ∧ ∀ x : Nat, x < k → ¬ (x : Int) < par L x) ∨ ∃ i : Nat, a = i ∧ i < k ∧ (i : Int) < par L i ∧ ∀ x : Nat, x < k → (x : Int) < par L x → dp L i ≤ dp L x
theorem best_skip {L : PL} {k : Nat} {a : Int} (h : BestTo L k a) (hk : ¬ (k : Int) < par L k) : BestTo L (k + 1) a := by
  rcases h with ⟨rfl, h1⟩ | ⟨i, rfl, h1, h2, h3⟩
  · refine .inl ⟨rfl, fun x hx => ?_⟩
    rcases Nat.lt_or_ge x k with h | h
    · exact h1 x h
    · obtain rfl : x = k := by omega
      exact hk
  · refine .inr ⟨i, rfl, by omega, h2, fun x hx hp => ?_⟩
    rcases Nat.lt_or_ge x k with h | h
    · exact h3 x h hp
    · obtain rfl : x = k := by omega
      exact absurd hp hk
theorem best_first {L : PL} {k : Nat} (h : BestTo L k (-1)) (hk : (k : Int) < par L k) : BestTo L (k + 1) k := by
  refine .inr ⟨k, rfl, by omega, hk, fun x hx hp => ?_⟩
  rcases h with ⟨_, h1⟩ | ⟨i, h0, _⟩
  · rcases Nat.lt_or_ge x k with h | h
    · exact absurd hp (h1 x h)
    · obtain rfl : x = k := by omega
      exact Int.le_refl _
  · omega
theorem best_less {L : PL} {k i : Nat} (h : BestTo L k i) (hk : (k : Int) < par L k) (hd : dp L k < dp L i) : BestTo L (k + 1) k := by
  refine .inr ⟨k, rfl, by omega, hk, fun x hx hp => ?_⟩
  rcases h with ⟨h0, _⟩ | ⟨i', h0, _, _, h3⟩
  · omega
  · obtain rfl : i = i' := by omega
    rcases Nat.lt_or_ge x k with h | h
    · have := h3 x h hp; omega
    · obtain rfl : x = k := by omega
      exact Int.le_refl _
theorem best_same {L : PL} {k i : Nat} (h : BestTo L k i) (hd : ¬ dp L k < dp L i) : BestTo L (k + 1) i := by
  rcases h with ⟨h0, _⟩ | ⟨i', h0, h1, h2, h3⟩
  · omega
  · obtain rfl : i = i' := by omega
    refine .inr ⟨i, rfl, by omega, h2, fun x hx hp => ?_⟩
    rcases Nat.lt_or_ge x k with h | h
    · exact h3 x h hp
    · obtain rfl : x = k := by omega
      omega
/-- what holds at each turn -/
def WayInv (n m : Nat) (L : PL) : Prop := IsTree L ∧ L.length = n ∧ ∃ t : Tr, L = t.sp 0 ∧ (m + 1 ≤ t.spine ∨ (n = 0 ∧ m = 0))
theorem way_start {L : PL} {n : Nat} (hT : IsTree L) (hn : L.length = n) : WayInv n 0 L := by
  obtain ⟨t, ht⟩ := hT.2.2
  refine ⟨hT, hn, t, ht, ?_⟩
  have hs : t.size = n := by rw [← hn, ht, sp_length]
  rcases Nat.eq_zero_or_pos n with h | h
  · exact .inr ⟨h, rfl⟩
  · exact .inl (spine_pos (by omega))
theorem way_le {L : PL} {n m : Nat} (h : WayInv n m L) : m + 1 ≤ n ∨ (n = 0 ∧ m = 0) := by
  obtain ⟨_, hn, t, ht, h1⟩ := h
  have hs : t.size = n := by rw [← hn, ht, sp_length]
  have := spine_le t
  rcases h1 with h | h
  · left; omega
  · exact .inr h
theorem way_next {L : PL} {n m i : Nat} (h : WayInv n m L) (hi : i < n) (hb : BestTo L n i) : dp L i ≠ 0 ∧ WayInv n (m + 1) (turnL L i) := by
  obtain ⟨hT, hn, t, ht, h1⟩ := h
  rcases hb with ⟨h0, _⟩ | ⟨i', h0, _, h2, h3⟩
  · omega
  · obtain rfl : i = i' := by omega
    obtain ⟨hd, t', ht', hs⟩ := way_step ht (by rw [hn]; exact hi) h2 (fun x hx hp => h3 x (by rw [hn] at hx; exact hx) hp)
    obtain ⟨j, _, htd⟩ := turned_of hT (by rw [hn]; exact hi) hd
    refine ⟨hd, htd.tree, by rw [htd.len, hn], t', ht', ?_⟩
    rcases h1 with h | h
    · left; omega
    · omega
theorem way_end {L : PL} {n m : Nat} (h : WayInv n m L) (hb : BestTo L n (-1)) : ∀ k, k < n → dp L k = k := by
  obtain ⟨hT, hn, t, ht, h1⟩ := h
  rcases hb with ⟨_, h2⟩ | ⟨i', h0, _⟩
  · intro k hk
    exact row_tree ht (fun i hi => h2 i (by rw [hn] at hi; exact hi)) k (by rw [hn]; exact hk)
  · omega

set_option maxRecDepth 100000 in
set_option maxHeartbeats 1000000 in
theorem Ways_bad (A : Option Addr) (n c : Nat) (l : PL) (w : World) (h : PS w A n c l) (hn : n ≤ 9223372036854775807) (hc : chkS l ≠ 0) :
    Calls Try.prog 5 #[.slice A n c] w (YesS w) := by
  have H := Lib.hid h
  clear h
  obtain ⟨E, hE0⟩ : ∃ E, chkS l = E := ⟨_, rfl⟩
  rw [hE0] at hc
  have HE := Lib.hid hE0
  have hE : (E != 0) = true := by simpa using hc
  clear hc hE0
  go_enter Try.func5, Try.ntmps5
  go_wp2_with fail
  refine (shapeLives_any _).mono ?_
  rintro e w1 ⟨rfl, hb⟩
  have HB1 := Lib.hid hb
  clear hb
  go_wp2_with fail
  refine (CheckS_is A n c l _ (H.out.below HB1.out) hn E HE.out).mono ?_
  rintro e w2 ⟨rfl, hb⟩
  have HB2 := Lib.hid (below_on HB1.out hb)
  clear hb
  go_wp2_with fail
  refine (shapeLives_any _).mono ?_
  rintro e w3 ⟨rfl, hb⟩
  have HB3 := Lib.hid (below_on HB2.out hb)
  clear hb
  go_wp2
  go_ret
  exact ⟨rfl, HB3.out⟩

set_option maxRecDepth 100000 in
set_option maxHeartbeats 4000000 in
theorem Ways_ok (A : Option Addr) (n c : Nat) (l : PL) (w : World) (h : PS w A n c l) (hT : IsTree l) :
    Calls Try.prog 5 #[.slice A n c] w (YesS w) := by
  have hn : n ≤ 200 := by have := hT.1; rw [h.len] at this; exact this
  have H := Lib.hid h
  have HST := Lib.hid (way_start hT h.len)
  have Hlen := Lib.hid h.len
  have HC := Lib.hid (chkS_zero.2 hT)
  clear h hT
  go_enter Try.func5, Try.ntmps5
  go_wp2_with fail
  refine (shapeLives_any _).mono ?_
  rintro e w1 ⟨rfl, hb⟩
  have HB1 := Lib.hid hb
  clear hb
  go_wp2_with fail
  refine (CheckS_is A n c l _ (H.out.below HB1.out) (by omega) 0 HC.out).mono ?_
  rintro e w2 ⟨rfl, hb⟩
  have HB2 := Lib.hid (below_on HB1.out hb)
  clear hb
  go_wp2_with fail
  refine (clone_any A n c l w2 (H.out.below HB2.out) (by omega)).mono ?_
  rintro e w3 ⟨v, rfl, hown, hb⟩
  obtain ⟨A3, c3, rfl, hps, -⟩ := hown.ps
  rw [Hlen.out] at hps ⊢
  have HB3 := Lib.hid (below_on HB2.out hb)
  have HP3 := Lib.hid hps
  clear hb hown hps
  go_wp2
  go_loopw [3, 4] (fun sv tv wr => ∃ (A' : Option Addr) (c' m : Nat) (L : PL), sv = .slice A' n c' ∧ tv = .int .i64 m ∧ PS wr A' n c' L ∧ WayInv n m L ∧ Below w.heap.size w wr) (fun _ tv _ => n - (intOf tv).toNat)
  case atStart => exact ⟨A3, c3, 0, l, rfl, rfl, HP3.out, HST.out, HB3.out⟩
  case round =>
    obtain ⟨A', c', m, L, rfl, rfl, hpsL, hinv, hnx⟩ := hrel
    have hmle := way_le hinv
    have HPL := Lib.hid hpsL
    have HINV := Lib.hid hinv
    have HNX := Lib.hid hnx
    clear hpsL hinv hnx
    go_wp2_with fail
    refine (Parents_ok A' n c' L wr HPL.out HINV.out.1).mono ?_
    rintro e w4 ⟨A4, n4, c4, rfl, his, hb4, -⟩
    obtain rfl : n = n4 := by rw [← his.len, parL_length, HINV.out.2.1]
    have HB4 := Lib.hid (below_on HNX.out hb4)
    have HP4 := Lib.hid (HPL.out.below hb4)
    have HI4 := Lib.hid his
    clear hb4 his
    go_wp2
    go_loopw [7, 33] (fun av kv wz => ∃ (k : Nat) (a : Int), k ≤ n ∧ kv = .int .i64 k ∧ av = .int .i64 a ∧ BestTo L k a ∧ Below w4.heap.size w4 wz) (fun _ kv _ => n - (intOf kv).toNat)
    case atStart => exact ⟨0, -1, Nat.zero_le _, rfl, rfl, .inl ⟨rfl, fun x hx => absurd hx (by omega)⟩, Below.refl _ _⟩
    case round =>
      obtain ⟨k, a, hk, rfl, rfl, hbest, hnz⟩ := hrel
      by_cases hlt : k < n
      · obtain ⟨bp, offp, rfl, hbp, hcp⟩ := (HI4.out.below hnz).at_ (by omega)
        obtain ⟨bs, offs, rfl, hbs, hcs⟩ := (HP4.out.below hnz).dat (by omega)
        have hpk : wr.cell? ⟨bp, offp + k, none⟩ = some (I (par L k)) := by
          rw [hcp k hlt]
          have := parL_at L k (by rw [HINV.out.2.1]; exact hlt)
          rw [List.getElem?_eq_getElem (by rw [parL_length, HINV.out.2.1]; exact hlt)] at this
          rw [Option.some.inj this]
        have hdk : wr.cell? ⟨bs, offs + k * 2 + 1, none⟩ = some (I (dp L k)) := (hcs k hlt).2
        have HNZ := Lib.hid hnz
        clear hnz hcp
        by_cases hup : (k : Int) < par L k
        · rcases hbest with ⟨rfl, h1⟩ | ⟨i, rfl, h1, h2, h3⟩
          · have HBT : Hid (BestTo L (k + 1) k) := best_first (.inl ⟨rfl, h1⟩) hup
            clear h1 hcs
            go_wp2
            go_quiet (fail)
            go_wp2
            go_roundw
            case rel => exact ⟨k + 1, k, by omega, by go_num, rfl, HBT.out, below_drewN HNZ.out _⟩
            case measure => simp [intOf]; omega
          · have hdi : wr.cell? ⟨bs, offs + i * 2 + 1, none⟩ = some (I (dp L i)) := (hcs i (by omega)).2
            have hin : i < n := by omega
            have hneg : decide ((i : Int) < 0) = false := by simp
            by_cases hd : dp L k < dp L i
            · have HBT : Hid (BestTo L (k + 1) k) := best_less (.inr ⟨i, rfl, h1, h2, h3⟩) hup hd
              clear h1 h2 h3 hcs
              go_wp2
              go_quiet (fail)
              go_wp2
              go_roundw
              case rel => exact ⟨k + 1, k, by omega, by go_num, rfl, HBT.out, below_drewN HNZ.out _⟩
              case measure => simp [intOf]; omega
            · have HBT : Hid (BestTo L (k + 1) i) := best_same (.inr ⟨i, rfl, h1, h2, h3⟩) hd
              clear h1 h2 h3 hcs
              go_wp2
              go_quiet (fail)
              go_wp2
              go_roundw
              case rel => exact ⟨k + 1, i, by omega, by go_num, rfl, HBT.out, below_drewN HNZ.out _⟩
              case measure => simp [intOf]; omega
        · have HBT : Hid (BestTo L (k + 1) a) := best_skip hbest hup
          have hdn : decide ((k : Int) < par L k) = false := by simpa using hup
          clear hbest hcs
          go_wp2
          go_quiet (fail)
          go_wp2
          go_roundw
          case rel => exact ⟨k + 1, a, by omega, by go_num, rfl, HBT.out, below_drewN HNZ.out _⟩
          case measure => simp [intOf]; omega
      · obtain rfl : k = n := by omega
        have HBS := Lib.hid hbest
        have HBZ := Lib.hid (below_on HB4.out hnz)
        have HPZ := Lib.hid (HP4.out.below hnz)
        rcases hbest with ⟨rfl, h1⟩ | ⟨i, rfl, h1, h2, h3⟩
        · have HROW := Lib.hid (way_end HINV.out HBS.out)
          clear h1 hnz
          go_wp2
          go_loopw [85] (fun jv wy => ∃ j : Nat, j ≤ k ∧ jv = .int .i64 j ∧ Below wr.heap.size wr wy) (fun jv _ => k - (intOf jv).toNat)
          case atStart => exact ⟨0, Nat.zero_le _, rfl, Below.refl _ _⟩
          case round =>
            obtain ⟨j, hj, rfl, hny⟩ := hrel
            by_cases hjlt : j < k
            · obtain ⟨bs, offs, rfl, hbs, hcs⟩ := (HPZ.out.below hny).dat (by omega)
              have hc0 : wr.cell? ⟨bs, offs + j * 2, none⟩ = some (I (ky L j)) := (hcs j hjlt).1
              have hc1 : wr.cell? ⟨bs, offs + j * 2 + 1, none⟩ = some (I j) := by rw [(hcs j hjlt).2, HROW.out j hjlt]
              have hjj : ((j : Int) != (j : Int)) = false := by simp
              have hsz := hny.size
              clear hcs
              go_wp2
              go_roundw
              case rel => exact ⟨j + 1, by omega, by go_num, hny.alloc hsz _⟩
              case measure => simp [intOf]; omega
            · have HBY := Lib.hid (below_on HBZ.out hny)
              clear hny
              go_wp2
              all_goals
                go_ret
                exact ⟨congrArg (fun b => Ending.returned (Value.bool b)) (decide_eq_true (by omega)), HBY.out⟩
        · obtain ⟨hd, hinv2⟩ := way_next HINV.out h1 HBS.out
          have HD := Lib.hid hd
          have HI2 := Lib.hid hinv2
          have HIX := Lib.hid (ixK_own HINV.out.1.2.1 (show i < L.length by rw [HINV.out.2.1]; exact h1))
          obtain ⟨bs, offs, rfl, hbs, hcs⟩ := HPZ.out.dat (by omega)
          have hci : wr.cell? ⟨bs, offs + i * 2, none⟩ = some (I (ky L i)) := (hcs i h1).1
          have hmn : m < k := by omega
          have hneg : decide ((i : Int) < 0) = false := by simp
          clear hd hinv2 h2 h3 hcs hnz
          go_wp2_with fail
          refine (Turn_ok _ k c' i L (ky L i) wr HPZ.out HINV.out.1 HIX.out h1 HD.out).mono ?_
          rintro e w6 ⟨A6, n6, c6, rfl, hps6, hb6, -⟩
          obtain rfl : k = n6 := by rw [← hps6.len, HI2.out.2.1]
          have HB6 := Lib.hid (below_on HBZ.out hb6)
          have HP6 := Lib.hid hps6
          clear hb6 hps6
          go_wp2
          go_roundw
          case rel => exact ⟨A6, c6, m + 1, _, rfl, by go_num, HP6.out, HI2.out, HB6.out⟩
          case measure => simp [intOf]; omega

theorem Ways_any (A : Option Addr) (n c : Nat) (l : PL) (w : World) (h : PS w A n c l) (hn : n ≤ 9223372036854775807) :
    Calls Try.prog 5 #[.slice A n c] w (YesS w) := by
  by_cases hc : chkS l = 0
  · exact Ways_ok A n c l w h (chkS_zero.1 hc)
  · exact Ways_bad A n c l w h hn hc

end Go.Proofs.Ytgpbafalciccdaa
