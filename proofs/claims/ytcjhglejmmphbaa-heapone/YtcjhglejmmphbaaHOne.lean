/-
  HeapOne: there is just one such tree: that which grows when keys come by their ranks, the highest first, of one rank the least key first.
-/
import Derived.Test.YtcjhglejmmphbaaHStab
import Derived.Test.YtcjhglejmmphbaaHLaw
import Derived.Test.YtcjhglejmmphbaaMapK
import Derived.Test.YtcjhglejmmphbaaGOf
namespace Go.Proofs.Ytcjhglejmmphbaa
open Go.RowKit

set_option maxRecDepth 100000 in
set_option maxHeartbeats 1000000 in
theorem cloneP_any (A : Option Addr) (n c : Nat) (l : PL) (w : World) (h : PS w A n c l) (hn : n ≤ 1000) :
    Calls Try.prog 17 #[.slice A n c] w fun e w' => ∃ v, e = .returned v ∧ OwnR w' w.heap.size 37 v l ∧ Below w.heap.size w w' := by
  have H := Lib.hid h
  have Hlen := Lib.hid h.len
  clear h
  have heq := fun w => Lib.run_eql_slice_nil (P := Try.prog) w 22 37 A n c 0 0 Try.underlying22
  cases A with
  | none =>
    have hl : l = [] := by
      rcases Nat.eq_zero_or_pos n with h0 | h0
      · exact List.eq_nil_of_length_eq_zero (by rw [Hlen.out]; exact h0)
      · obtain ⟨b, off, e, _⟩ := H.out.dat h0; cases e
    have HL := Lib.hid hl
    clear hl
    go_enter Try.func17, Try.ntmps17
    go_wp2
    go_ret
    refine ⟨_, rfl, ?_, Below.refl _ _⟩
    rw [HL.out]
    exact World.ownsRow_nil _ _ _ _
  | some ad =>
    go_enter Try.func17, Try.ntmps17
    go_wp2_with (at_builtin; refine wpList_app2 rfl (.tmp 5) (.tmp 6) 22 rfl 37 Try.underlying22 hpair_info w.heap.size (.slice (some ⟨w.heap.size, 0, none⟩) 0 0) [] l (some ad) n c rfl rfl (own2_empty (heap_alloc_new w _) (Nat.le_refl _)) (H.out.alloc _).src (by simp; omega) (by simp) ?_; intro v' w' hown hgrow _)
    go_ret
    refine ⟨_, rfl, by simpa [OwnR] using hown, ?_⟩
    exact (((Below.refl _ _).alloc (Nat.le_refl _) _)).grown hgrow (by simp) (by simp [Value.ownBlock])

theorem insSort_zero (A : Option Addr) (c : Nat) (w : World) : Calls Try.prog 41 #[.slice A 0 c, I 0, I 0, fcmp] w fun e w' => e = .returned (.tuple #[]) ∧ w' = w := by
  go_enter Try.func41, Try.ntmps41
  go_wp2
  go_loop [8] (fun i => i = .int .i64 1) (fun _ => 0)
  case atStart => rfl
  case round =>
    subst hrel
    go_wp2
    go_end0
    exact ⟨rfl, rfl⟩
theorem stable_zero (A : Option Addr) (c : Nat) (w : World) : Calls Try.prog 32 #[.slice A 0 c, I 0, fcmp] w fun e w' => e = .returned (.tuple #[]) ∧ w' = w := by
  go_enter Try.func32, Try.ntmps32
  go_wp2
  go_loop [7, 8] (fun x y => x = .int .i64 0 ∧ y = .int .i64 20) (fun _ _ => 0)
  case atStart => exact ⟨rfl, rfl⟩
  case round =>
    obtain ⟨rfl, rfl⟩ := hrel
    go_wp2_with fail
    refine (insSort_zero A c w).mono ?_
    rintro e w1 ⟨rfl, rfl⟩
    go_wp2
    go_loop [6] (fun i => i = .int .i64 20) (fun _ => 0)
    case atStart => rfl
    case round =>
      subst hrel
      go_wp2
      go_end0
      exact ⟨rfl, rfl⟩
theorem sortStable_zero (A : Option Addr) (c : Nat) (w : World) : Calls Try.prog 18 #[.slice A 0 c, fcmp] w fun e w' => e = .returned (.tuple #[]) ∧ w' = w := by
  go_enter Try.func18, Try.ntmps18
  go_wp2_with fail
  refine (stable_zero A c w).mono ?_
  rintro e w1 ⟨rfl, rfl⟩
  go_wp2
  go_end0
  exact ⟨rfl, rfl⟩
/-- sorted, whatever the length -/
theorem sorted_all (v : Value) (n : Nat) (l : PL) (base : Nat) (w : World) (h : OwnR w base 37 v l) (hl : l.length = n) (hn : n ≤ 1000) (hr : HKeys l) (hb : base ≤ w.heap.size) :
    ∃ A c, v = .slice A n c ∧ Calls Try.prog 18 #[.slice A n c, fcmp] w fun e w' => ∃ M : PL, M.Perm l ∧ Ord M ∧ e = .returned (.tuple #[]) ∧ PS w' A n c M ∧ Below base w w' := by
  rcases Nat.eq_zero_or_pos n with h0 | h0
  · obtain ⟨A, c, e, hp, _⟩ := OwnR.ps h
    rw [hl, h0] at e
    refine ⟨A, c, by rw [h0]; exact e, ?_⟩
    rw [h0]
    refine (sortStable_zero A c w).mono ?_
    rintro e' w' ⟨rfl, rfl⟩
    have hnil : l = [] := List.eq_nil_of_length_eq_zero (by omega)
    exact ⟨[], by rw [hnil], by simp, rfl, ⟨rfl, Rd.none_⟩, Below.refl _ _⟩
  · obtain ⟨A, c, rfl, hp, _⟩ := OwnR.ps h
    obtain ⟨g, rfl, _, hbg, hlc, hsb⟩ := h.sb (by omega)
    rw [hl] at hlc hp ⊢
    refine ⟨_, c, rfl, ?_⟩
    refine (sortStable_any g c n l w hsb hl hlc hn hr).mono ?_
    rintro e' w' ⟨M, h1, h2, rfl, h3, h4⟩
    have hM : M.length = n := by rw [h1.length_eq, hl]
    have := h3.ps (c := c) (by rw [hM]; exact hlc)
    rw [hM] at this
    exact ⟨M, h1, h2, rfl, this, h4.mono hbg⟩
theorem eqSpot_t (A A' : Option Addr) (n c c' : Nat) (l : PL) (w : World) (h : PS w A n c l) (h' : PS w A' n c' l) (hn : n ≤ 1000000) :
    Calls Try.prog 22 #[.slice A n c, .slice A' n c'] w fun e w' => e = .returned (.bool true) ∧ Below w.heap.size w w' := by
  refine (eqSpot_any A A' n n c c' l l w h h' hn hn).mono ?_
  rintro e w' ⟨rfl, hb⟩
  exact ⟨by simp, hb⟩
theorem unl_perm {l M : PL} (hc : chk l = 0) (hp : M.Perm l) : unl (kys M) = 0 := by
  obtain ⟨h1, h2, h3⟩ := chk_right.1 hc
  refine unl_zero.2 ⟨by simp [kys, hp.length_eq]; exact h1, ?_, ?_⟩
  · intro x hx
    obtain ⟨p, hpm, rfl⟩ := List.mem_map.1 hx
    exact h2 p (hp.mem_iff.1 hpm)
  · have hk : (kys l).Nodup := by
      refine List.Pairwise.imp ?_ (List.pairwise_map.2 h3)
      intro a b hab e
      omega
    exact ((hp.map Prod.fst).nodup_iff).2 hk

set_option maxRecDepth 100000 in
set_option maxHeartbeats 8000000 in
theorem hone_ok (A : Option Addr) (n c : Nat) (l : PL) (w : World) (h : PS w A n c l) (hc : chk l = 0) :
    Calls Try.prog 4 #[.slice A n c] w fun e w' => e = .returned (.bool true) ∧ Below w.heap.size w w' := by
  obtain ⟨t, ht⟩ := hp_has l.length l (Nat.le_refl _)
  have hn : n ≤ 200 := by rw [← h.len]; exact (chk_right.1 hc).1
  have HO := Lib.hid (HOf_ok A n c l t w h hc ht)
  have HL := Lib.hid h.len
  have HC := Lib.hid hc
  have HRI : Hid (HKeys l) := (chk_right.1 hc).2.2
  have HGR : Hid (∀ M : PL, M.Perm l → Ord M → gro .nil (kys M) = t) := fun M h1 h2 => grow_hp t l M ht (chk_right.1 hc).2.2 h1 h2
  have HSL : Hid ((t.sp 0).length = n) := by show _ = _; rw [sp_length, ← hp_len ht, h.len]
  have H := Lib.hid h
  clear h hc ht
  go_enter Try.func4, Try.ntmps4
  go_wp2_with fail
  refine HO.out.mono ?_
  rintro e w1 ⟨A1, c1, rfl, hp1, hb1⟩
  have HB1 := Lib.hid hb1
  have H1 := Lib.hid (H.out.below hb1)
  have HP1 := Lib.hid hp1
  clear hb1 hp1 HO H
  go_wp2_with fail
  refine (heapLives_any w1).mono ?_
  rintro e w2 ⟨rfl, hb2⟩
  have HB2 := Lib.hid (below_next HB1.out hb2)
  have H2 := Lib.hid (H1.out.below hb2)
  have HP2 := Lib.hid (HP1.out.below hb2)
  clear hb2 HB1 H1 HP1
  go_wp2_with fail
  refine (cloneP_any A n c l w2 H2.out (by omega)).mono ?_
  rintro e w3 ⟨v3, rfl, ho3, hb3⟩
  obtain ⟨A3, c3, rfl, hst⟩ := sorted_all v3 n l w2.heap.size w3 ho3 HL.out (by omega) HRI.out hb3.size
  have HB3 := Lib.hid (below_next HB2.out hb3)
  have HP3 : Hid (PS w3 A1 n c1 (t.sp 0)) := HP2.out.below hb3
  have HBW := Lib.hid HB2.out.size
  have HA1 : Hid (0 < n → ∀ ad, A1 = some ad → ad.block < w2.heap.size) := fun h0 ad e => by
    obtain ⟨b, off, e', hb, _⟩ := HP2.out.dat h0
    rw [e] at e'
    cases e'
    exact hb
  have HST := Lib.hid hst
  clear hb3 ho3 hst HB2 H2 HP2
  go_wp2_with fail
  refine HST.out.mono ?_
  rintro e w4 ⟨M, hM, hO, rfl, hp4, hb4⟩
  have HB4 : Hid (Below w.heap.size w w4) := HB3.out.trans (hb4.mono HBW.out)
  have HP4 := Lib.hid hp4
  have HS4 : Hid (PS w4 A1 n c1 (t.sp 0)) := by
    rcases Nat.eq_zero_or_pos n with h0 | h0
    · subst h0
      exact ⟨HP3.out.len, Nat.zero_le _, fun h => absurd h (by omega)⟩
    · exact HP3.out.low (HA1.out h0) hb4
  have HML := Lib.hid (HGR.out M hM hO)
  have HUN := Lib.hid (unl_perm HC.out hM)
  have HKL : Hid ((kys M).length = n) := by show _ = _; simp [kys, hM.length_eq]; exact HL.out
  clear hM hO hp4 hb4 HB3 HP3 HST
  go_wp2_with fail
  refine (MapKeys_any A3 n c3 M w4 HP4.out (by omega)).mono ?_
  rintro e w5 ⟨A5, c5, rfl, hi5, hb5⟩
  rw [HKL.out] at hi5 ⊢
  have HB5 := Lib.hid (below_next HB4.out hb5)
  have HS5 := Lib.hid (HS4.out.below hb5)
  have HI5 := Lib.hid hi5
  clear hi5 hb5 HB4 HS4 HP4
  go_wp2_with fail
  refine (GOf_ok A5 n c5 (kys M) w5 HI5.out HUN.out).mono ?_
  rw [HML.out]
  rintro e w6 ⟨A6, n6, c6, rfl, hp6, hb6⟩
  obtain rfl : n6 = n := by rw [← hp6.len]; exact HSL.out
  have HB6 := Lib.hid (below_next HB5.out hb6)
  have HS6 := Lib.hid (HS5.out.below hb6)
  have HT6 := Lib.hid hp6
  clear hp6 hb6 HB5 HS5 HI5
  go_wp2_with fail
  refine (eqSpot_t A1 A6 n6 c1 c6 _ w6 HS6.out HT6.out (by omega)).mono ?_
  rintro e w7 ⟨rfl, hb7⟩
  have HB7 := Lib.hid (below_next HB6.out hb7)
  clear hb7
  go_wp2
  go_ret
  exact ⟨rfl, HB7.out⟩

set_option maxRecDepth 100000 in
set_option maxHeartbeats 4000000 in
theorem hone_bad (A : Option Addr) (n c : Nat) (l : PL) (w : World) (h : PS w A n c l) (hn : n ≤ 9223372036854775807) (E : Int) (hE : chk l = E) (hE0 : E ≠ 0) :
    Calls Try.prog 4 #[.slice A n c] w fun e w' => e = .returned (.bool true) ∧ Below w.heap.size w w' := by
  have HO := Lib.hid (HOf_bad A n c l w h hn E hE hE0)
  have hne := herr_ne hE0
  clear h hE hE0
  go_enter Try.func4, Try.ntmps4
  go_wp2_with fail
  refine HO.out.mono ?_
  rintro e w1 ⟨rfl, hb1⟩
  have HB1 := Lib.hid hb1
  clear hb1 HO
  go_wp2_with fail
  refine (heapLives_any w1).mono ?_
  rintro e w2 ⟨rfl, hb2⟩
  have HB2 := Lib.hid (below_next HB1.out hb2)
  clear hb2 HB1
  go_wp2_with fail
  refine (heapLives_any w2).mono ?_
  rintro e w3 ⟨rfl, hb3⟩
  have HB3 := Lib.hid (below_next HB2.out hb3)
  clear hb3 HB2
  go_wp2
  go_ret
  exact ⟨rfl, HB3.out⟩
theorem hone_any (A : Option Addr) (n c : Nat) (l : PL) (w : World) (h : PS w A n c l) (hn : n ≤ 9223372036854775807) :
    Calls Try.prog 4 #[.slice A n c] w fun e w' => e = .returned (.bool true) ∧ Below w.heap.size w w' := by
  by_cases hc : chk l = 0
  · exact hone_ok A n c l w h hc
  · exact hone_bad A n c l w h hn _ rfl hc

end Go.Proofs.Ytcjhglejmmphbaa
