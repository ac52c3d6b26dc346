/-
  The walk of the law HalfWalk.
-/
import Derived.Test.YtolfpjleckckiaaQCutsL
namespace Go.Proofs.Ytolfpjleckckiaa
open Go.RowKit Go.Maps

theorem asks_at {l : List Int} (h : Hk l) (m k : Nat) (hk : k < l.length) : (hAs l (asksOf l))[2 * k]? = some (hanO l[k + 1]?) ∧ (hAs l (asksOf l))[2 * k + 1]? = some (hanO (if k = 0 then none else l[k - 1]?)) := by
  rw [hAs_asks]
  obtain ⟨h1, h2⟩ := pairs_at (fun x => hA l (4, x, 0)) (fun x => hA l (5, x, 0)) l k hk
  obtain ⟨h3, h4⟩ := walk_at h hk
  rw [h1, h2]
  exact ⟨by rw [h3], by rw [h4]⟩
theorem asks_succ (l : List Int) (k : Nat) (h : k < l.length) : asksOf (l.take (k + 1)) = asksOf (l.take k) ++ [(4, l[k], 0), (5, l[k], 0)] := by
  unfold asksOf
  rw [List.take_succ_eq_append_getElem h, List.flatMap_append]
  simp
/-- the answers to the asks behind all ops -/
theorem asks_run (ops : List OP) : (hR (ops ++ asksOf (hR ops).1)).2 = (hR ops).2 ++ hAs (hR ops).1 (asksOf (hR ops).1) := by
  rw [hR_is, hR_is ops, hAs_app]

theorem past_at {aa bb : List An} {n i : Nat} {x : An} (hl : aa.length = n) (h : bb[i]? = some x) {hi : n + i < (aa ++ bb).length} : (aa ++ bb)[n + i] = x := by
  obtain ⟨h1, h2⟩ := List.getElem?_eq_some_iff.1 h
  rw [List.getElem_append_right (by omega)]
  simp [hl, h2]
theorem hanO_is (r : Option Int) : ∃ y b, hanO r = ⟨0, y, 0, b⟩ ∧ (∀ v, r = some v → y = v ∧ b = true) ∧ (r = none → b = false) := by
  cases r with
  | none => exact ⟨0, false, rfl, fun v h => (by cases h), fun _ => rfl⟩
  | some v => exact ⟨v, true, rfl, fun u h => (by cases h; exact ⟨rfl, rfl⟩), fun h => (by cases h)⟩
set_option maxRecDepth 100000 in
set_option maxHeartbeats 4000000 in
theorem qwalk_bad (A : Option Addr) (n c : Nat) (ops : List OP) (w : World) (h : OS w A n c ops) (hm : n ≤ 9223372036854775807) (hb : 100 < n) :
    Calls Try.prog 5 #[.slice A n c] w (YesQ w) := by
  by_cases hn : 300 < n
  · have HR := Lib.hid (QRun_large A n c w hn hm)
    clear h hb hm
    go_enter Try.func5, Try.ntmps5
    go_wp2_with fail
    refine HR.out.mono ?_
    rintro e w1 ⟨A1, n1, c1, A2, n2, c2, rfl, his, _, hb1⟩
    obtain rfl : n1 = 0 := his.len.symm
    have HB1 := Lib.hid hb1
    clear hb1 his
    go_wp2_with fail
    refine (halfLives_any w1).mono ?_
    rintro e w2 ⟨rfl, hb2⟩
    have HB2 := Lib.hid (qon HB1.out hb2)
    clear hb2
    go_wp2_with fail
    refine (halfLives_any w2).mono ?_
    rintro e w3 ⟨rfl, hb3⟩
    have HB3 := Lib.hid (qon HB2.out hb3)
    clear hb3
    go_wp2
    go_ret
    exact ⟨rfl, HB3.out⟩
  · have HR := Lib.hid (QRun_any A n c ops w h (by omega))
    clear h hm
    go_enter Try.func5, Try.ntmps5
    go_wp2_with fail
    refine HR.out.mono ?_
    rintro e w1 ⟨A1, n1, c1, A2, n2, c2, rfl, _, _, hb1⟩
    have HB1 := Lib.hid hb1
    clear hb1
    go_wp2_with fail
    refine (halfLives_any w1).mono ?_
    rintro e w2 ⟨rfl, hb2⟩
    have HB2 := Lib.hid (qon HB1.out hb2)
    clear hb2
    go_wp2_with fail
    refine (halfLives_any w2).mono ?_
    rintro e w3 ⟨rfl, hb3⟩
    have HB3 := Lib.hid (qon HB2.out hb3)
    clear hb3
    go_wp2
    go_ret
    exact ⟨rfl, HB3.out⟩

set_option maxRecDepth 100000 in
set_option maxHeartbeats 8000000 in
theorem qwalk_ok (A : Option Addr) (n c : Nat) (ops : List OP) (w : World) (h : OS w A n c ops) (hn : n ≤ 100) :
    Calls Try.prog 5 #[.slice A n c] w (YesQ w) := by
  have HR := Lib.hid (QRun_any A n c ops w h (by omega))
  have H := Lib.hid h
  have HL := Lib.hid h.len
  have HAL : Hid ((hR ops).2.length = n) := by show _ = _; rw [hR_len, HL.out]
  have hle := hR_le ops
  rw [HL.out] at hle
  have HK := Lib.hid (hR_up ops)
  have HAR := Lib.hid (asks_run ops)
  obtain ⟨la, hla⟩ : ∃ la, (hR ops).1 = la := ⟨_, rfl⟩
  obtain ⟨aa, haa⟩ : ∃ aa, (hR ops).2 = aa := ⟨_, rfl⟩
  rw [hla, haa] at HR HAR
  rw [haa] at HAL
  rw [hla] at HK hle
  obtain ⟨i0, hi, hz0, hz1, hz2⟩ := info_parts op_info
  have HI := Lib.hid hi
  have HZ0 := Lib.hid hz0
  have HZ1 := Lib.hid hz1
  have HZ2 := Lib.hid hz2
  clear h hla haa hi hz0 hz1 hz2
  go_enter Try.func5, Try.ntmps5
  go_wp2_with fail
  refine HR.out.mono ?_
  rintro e w1 ⟨A1, n1, c1, A2, n2, c2, rfl, his, has, hb1⟩
  have hn1 : n1 ≤ 100 := by have := his.len; omega
  have HB1 := Lib.hid hb1
  have HI1 := Lib.hid his
  have HL1 := Lib.hid his.len
  clear hb1 his has HR
  go_wp2_with fail
  refine (halfLives_any w1).mono ?_
  rintro e w2 ⟨rfl, hb2⟩
  have HB2 := Lib.hid (qon HB1.out hb2)
  have HI2 := Lib.hid (HI1.out.below hb2)
  clear hb2 HI1
  go_wp2_with fail
  refine (cloneO_any A n c ops w2 (H.out.below HB2.out) (by omega)).mono ?_
  rintro e w3 ⟨v3, rfl, ho3, hb3⟩
  have HB3 := Lib.hid hb3
  have HO3 : Hid (OwnO w3 w2.heap.size v3 ops) := ho3
  have hs23 := hb3.size
  clear ho3 hb3
  go_wp2
  go_loopw [6, 47] (fun v i wr => ∃ k : Nat, k ≤ n1 ∧ i = .int .i64 k ∧ OwnO wr w2.heap.size v (ops ++ asksOf (la.take k)) ∧ Below w2.heap.size w2 wr) (fun _ i _ => n1 - (intOf i).toNat)
  case atStart => exact ⟨0, Nat.zero_le _, rfl, by simpa [asksOf] using HO3.out, HB3.out⟩
  case round =>
    obtain ⟨k, hk, rfl, hown, hnx⟩ := hrel
    have hzi := hnx.size
    have HNX := Lib.hid hnx
    by_cases hlt : k < n1
    · obtain ⟨b, off, rfl, hb, hc⟩ := (HI2.out.below hnx).at_ (by omega)
      have hkl : k < la.length := by rw [HL1.out]; exact hlt
      have hck : wr.cell? ⟨b, off + k, none⟩ = some (I la[k]) := hc k hlt
      have HS := Lib.hid (asks_succ la k hkl)
      have hlen : (ops ++ asksOf (la.take k)).length = n + 2 * k := by rw [List.length_append, asksOf_len, List.length_take, HL.out]; omega
      generalize la[k] = x at *
      obtain ⟨xs, hxs⟩ : ∃ xs, ops ++ asksOf (la.take k) = xs := ⟨_, rfl⟩
      have HT : Hid (ops ++ asksOf (la.take (k + 1)) = xs ++ [(4, x, 0), (5, x, 0)]) := by show _ = _; rw [HS.out, ← hxs, List.append_assoc]
      rw [hxs] at hown hlen
      obtain ⟨m, hm⟩ : ∃ m, xs.length = m := ⟨_, rfl⟩
      have hmb : m ≤ 1000 := by omega
      have HOM : Hid (wr.ownsRow w2.heap.size 39 3 u6 m (flatO xs)) := by have := hown; unfold OwnO at this; rw [hm] at this; exact this
      have HM := Lib.hid hm
      clear hc hown hnx hxs hlen hm
      go_wp2_with (first
        | (at_builtin
           refine wpList_append_own_at _ rfl (.tmp 51) (.tmp 56) 22 rfl w2.heap.size 39 i0 _ 3 24 Try.underlying22 HI.out HZ0.out HZ1.out HZ2.out rfl (by omega) u6 m (flatO xs) rfl (own_below HOM.out ((Below.refl _ _).alloc (Nat.le_refl _) _)) ⟨wr.heap.size, 0, none⟩ 2 2 [I 4, I x, I 0, I 5, I x, I 0] rfl rfl (fun j u hu => two_new wr 4 x 5 x j u hu) (two_one 4 x 5 x) (by unfold maxLen; omega) (by omega) (by simp; omega) ?_
           intro v2 w9 hown2 hgrow2 _ hat2)
        | fail)
      have HB9 : Hid (Below w2.heap.size w2 w9) := Below.grown (HNX.out.alloc hzi _) hgrow2 (by simp; omega) (own_ge1 HOM.out)
      have HO9 : Hid (OwnO w9 w2.heap.size v2 (ops ++ asksOf (la.take (k + 1)))) := by
        show OwnO _ _ _ _
        rw [HT.out]
        unfold OwnO
        rw [flatO_append, List.length_append, HM.out]
        exact hown2
      clear hown2 hgrow2 hat2
      go_roundw
      case rel => exact ⟨k + 1, by omega, by go_num, HO9.out, HB9.out⟩
      case measure => simp [intOf]; omega
    · have htk : la.take k = la := List.take_of_length_le (by rw [HL1.out]; omega)
      rw [htk] at hown
      obtain ⟨A4, c4, rfl, hos⟩ := hown.os
      have hlen : (ops ++ asksOf la).length = n + 2 * n1 := by rw [List.length_append, asksOf_len, HL.out, HL1.out]
      obtain ⟨m, hm⟩ : ∃ m, n + 2 * n1 = m := ⟨_, rfl⟩
      rw [hlen, hm] at hos ⊢
      have HM := Lib.hid hm
      have hmb : m ≤ 300 := by omega
      have HOS := Lib.hid hos
      have HIR := Lib.hid (HI2.out.below hnx)
      have HBR := Lib.hid (qon HB2.out (HNX.out))
      clear hown hnx htk hlen hm hos HB3 HO3 HI HZ0 HZ1 HZ2 HNX
      go_wp2_with fail
      refine (QRun_any A4 m c4 _ wr HOS.out hmb).mono ?_
      rw [HAR.out]
      rintro e w5 ⟨A5, n5, c5, A6, n6, c6, rfl, his5, has5, hb5⟩
      have hn6 : n6 = m := by
        rw [← has5.len, List.length_append, HAL.out, hAs_len, asksOf_len, HL1.out]
        exact HM.out
      subst hn6
      have HB5 := Lib.hid (qon HBR.out hb5)
      have HI5 := Lib.hid (HIR.out.below hb5)
      have HA5 := Lib.hid has5
      clear his5 has5 hb5 HBR HIR HOS
      go_wp2
      go_loopw [76] (fun i wr => ∃ k : Nat, k ≤ n1 ∧ i = .int .i64 k ∧ Below w5.heap.size w5 wr) (fun i _ => n1 - (intOf i).toNat)
      case atStart => exact ⟨0, Nat.zero_le _, rfl, Below.refl _ _⟩
      case round =>
        obtain ⟨k, hk, rfl, hnx⟩ := hrel
        have HNX := Lib.hid hnx
        have hzi := hnx.size
        by_cases hlt : k < n1
        · have hkl : k < la.length := by rw [HL1.out]; exact hlt
          obtain ⟨b, off, rfl, hb, hc⟩ := (HI5.out.below hnx).at_ (by omega)
          have hck : wr.cell? ⟨b, off + k, none⟩ = some (I la[k]) := hc k hlt
          have hmk : n + 2 * k + 1 < n6 := by have := HM.out; omega
          obtain ⟨ba, oa, rfl, hba, hca⟩ := (HA5.out.below hnx).at_ (by omega)
          obtain ⟨q1, q2⟩ := asks_at HK.out n k hkl
          have hx1 := hca (n + 2 * k) (by omega)
          have hx2 := hca (n + (2 * k + 1)) (by omega)
          rw [past_at HAL.out q1] at hx1
          rw [past_at (i := 2 * k + 1) HAL.out q2] at hx2
          obtain ⟨y, bn, hy, hy1, hy2⟩ := hanO_is la[k + 1]?
          obtain ⟨z, bp, hz, hz1, hz2⟩ := hanO_is (if k = 0 then none else la[k - 1]?)
          rw [hy] at hx1
          rw [hz] at hx2
          obtain ⟨N, hN⟩ : ∃ N, n + 2 * k = N := ⟨_, rfl⟩
          obtain ⟨N1, hN1⟩ : ∃ N1, N + 1 = N1 := ⟨_, rfl⟩
          obtain ⟨K2, hK2⟩ : ∃ K2, 2 * k = K2 := ⟨_, rfl⟩
          rw [hN] at hx1 hmk
          rw [show n + (2 * k + 1) = N1 by omega] at hx2
          rw [hN1] at hmk
          simp only [← Nat.add_assoc] at hx1 hx2
          obtain ⟨s0, s1, s2, s3⟩ := hx1
          obtain ⟨t0, t1, t2, t3⟩ := hx2
          have e1 : IntKind.i64.wrap (2 * (k : Int)) = (K2 : Int) := by rw [IntWalk.i64_in _ (by omega)]; omega
          have e2 : IntKind.i64.wrap ((n : Int) + (K2 : Int)) = (N : Int) := by rw [IntWalk.i64_in _ (by omega)]; omega
          have e3 : IntKind.i64.wrap ((N : Int) + 1) = (N1 : Int) := by rw [IntWalk.i64_in _ (by omega)]; omega
          have x1 : N < n6 := by omega
          have x2 : (N : Int) < (n6 : Int) := by omega
          have x3 : (N1 : Int) < (n6 : Int) := by omega
          have HKL := Lib.hid hkl
          have HUP : Hid (∀ h : 0 < k, la[k - 1] < la[k]) := fun h => (List.pairwise_iff_getElem.1 HK.out.1) (k - 1) k (by omega) hkl (by omega)
          have HKC : Hid (∀ i (h : i < n1), wr.cell? ⟨b, off + i, none⟩ = some (I (la[i]'(by rw [HL1.out]; exact h)))) := hc
          have HY1 := Lib.hid hy1
          have HY2 := Lib.hid hy2
          have HZ1 := Lib.hid hz1
          have HZ2 := Lib.hid hz2
          have hbw : b < wr.heap.size := hb
          obtain ⟨x, hx⟩ : ∃ x, la[k]'hkl = x := ⟨_, rfl⟩
          have hckx : wr.cell? ⟨b, off + k, none⟩ = some (I x) := by rw [← hx]; exact hck
          have HUX : Hid (∀ h : 0 < k, la[k - 1]'(by omega) < x) := fun h => by rw [← hx]; exact HUP.out h
          clear hck HUP
          clear hc hca q1 q2 hy hz hy1 hy2 hz1 hz2 hN hN1 hK2 hx
          go_wp2
          go_region
          · obtain ⟨V0, hV0⟩ : ∃ V0, (wr.alloc (.cells #[.int .i64 0, .int .i64 y, .int .i64 0, .bool bn] 36)).alloc (.cells #[.int .i64 0, .int .i64 z, .int .i64 0, .bool bp] 36) = V0 := ⟨_, rfl⟩
            have hVb : Below wr.heap.size wr V0 := by rw [← hV0]; exact ((Below.refl _ _).alloc (Nat.le_refl _) _).alloc (by simp) _
            have hB1 : V0.heap[wr.heap.size]? = some (.cells #[.int .i64 0, .int .i64 y, .int .i64 0, .bool bn] 36 (0, 0)) := by
              rw [← hV0]
              exact (Below.heap_alloc _ _ _ (by simp)).trans (heap_alloc_new wr _)
            have hB2 : V0.heap[wr.heap.size + 1]? = some (.cells #[.int .i64 0, .int .i64 z, .int .i64 0, .bool bp] 36 (0, 0)) := by
              rw [← hV0]
              have := heap_alloc_new (wr.alloc (.cells #[.int .i64 0, .int .i64 y, .int .i64 0, .bool bn] 36)) (.cells #[.int .i64 0, .int .i64 z, .int .i64 0, .bool bp] 36)
              simpa using this
            obtain ⟨V, hV⟩ : ∃ V, V0.drew = V := ⟨_, rfl⟩
            have hVc : ∀ a, V.cell? a = V0.cell? a := fun a => by rw [← hV]; rfl
            have HBV : Hid (Below w5.heap.size w5 V) := by show Below _ _ _; rw [← hV]; exact (HNX.out.trans (hVb.mono hzi)).drew
            have hkc : ∀ i (h : i < n1), V.cell? ⟨b, off + i, none⟩ = some (I (la[i]'(by rw [HL1.out]; exact h))) := fun i h => ((hVc _).trans (hVb.cell (by exact hbw))).trans (HKC.out i h)
            rw [hV0, hV]
            have d1 : V.cell? ⟨wr.heap.size, 1, none⟩ = some (I y) := by rw [hVc]; simp [World.cell?, hB1]
            have d3 : V.cell? ⟨wr.heap.size, 3, none⟩ = some (.bool bn) := by rw [hVc]; simp [World.cell?, hB1]
            have r1 : V.cell? ⟨wr.heap.size + 1, 1, none⟩ = some (I z) := by rw [hVc]; simp [World.cell?, hB2]
            have r3 : V.cell? ⟨wr.heap.size + 1, 3, none⟩ = some (.bool bp) := by rw [hVc]; simp [World.cell?, hB2]
            have hkx := (hkc k hlt)
            clear hV hV0 hVc hVb hB1 hB2 s0 s1 s2 s3 t0 t1 t2 t3
            obtain ⟨K1, hK1⟩ : ∃ K1, k + 1 = K1 := ⟨_, rfl⟩
            have w1' : IntKind.i64.wrap ((k : Int) + 1) = (K1 : Int) := by rw [IntWalk.i64_in _ (by omega)]; omega
            have HK1 := Lib.hid hK1
            by_cases hk0 : k = 0
            · obtain rfl : bp = false := HZ2.out (by rw [if_pos hk0])
              have a1 : decide ((0 : Int) < (k : Int)) = false := by simp; omega
              have a2 : decide (0 < k) = false := by simp; omega
              by_cases hk1 : k + 1 < n1
              · have hk1l : k + 1 < la.length := by rw [HL1.out]; exact hk1
                obtain ⟨rfl, rfl⟩ := HY1.out (la[k + 1]'hk1l) (List.getElem?_eq_getElem hk1l)
                have b1 : decide ((K1 : Int) < (n1 : Int)) = true := by simp; omega
                have b2 : decide (K1 < n1) = true := by simp; omega
                have b3 : (K1 : Int) < (n1 : Int) := by omega
                have b4 : K1 < n1 := by omega
                have b5 := hkc (k + 1) hk1
                generalize la[k + 1]'hk1l = y at *
                rw [hK1] at b5
                have b6 : (y != y) = false := by simp
                have HKZ := Lib.hid hk0
                clear hkc hkx hk1 hk0 hK1 hk1l
                go_wp2
                go_quiet (fail)
                go_wp2
                go_roundw
                case rel => exact ⟨K1, by omega, rfl, below_drewN HBV.out _⟩
                case measure => have := HK1.out; simp [intOf]; omega
              · obtain rfl : bn = false := HY2.out (List.getElem?_eq_none (by rw [HL1.out]; omega))
                have b1 : decide ((K1 : Int) < (n1 : Int)) = false := by simp; omega
                have b2 : decide (K1 < n1) = false := by simp; omega
                have HKZ := Lib.hid hk0
                have b4 : K1 ≤ n1 := by omega
                clear hkc hkx hk1 hk0 hK1
                go_wp2
                go_quiet (fail)
                go_wp2
                go_roundw
                case rel => exact ⟨K1, by omega, rfl, below_drewN HBV.out _⟩
                case measure => have := HK1.out; simp [intOf]; omega
            · obtain ⟨Km, hKm⟩ : ∃ Km, k - 1 = Km := ⟨_, rfl⟩
              have w2' : IntKind.i64.wrap ((k : Int) - 1) = (Km : Int) := by rw [IntWalk.i64_in _ (by omega)]; omega
              obtain ⟨rfl, rfl⟩ := HZ1.out (la[k - 1]'(by omega)) (by rw [if_neg hk0]; exact List.getElem?_eq_getElem (by omega))
              have a1 : decide ((0 : Int) < (k : Int)) = true := by simp; omega
              have a2 : decide (0 < k) = true := by simp; omega
              have a3 : (Km : Int) < (n1 : Int) := by omega
              have a4 : Km < n1 := by omega
              have a5 := hkc (k - 1) (by omega)
              have a6 := HUX.out (by omega)
              generalize la[k - 1]'(by omega) = z at *
              rw [hKm] at a5
              have a7 : decide (x ≤ z) = false := by simp; omega
              have a8 : (z != z) = false := by simp
              by_cases hk1 : k + 1 < n1
              · have hk1l : k + 1 < la.length := by rw [HL1.out]; exact hk1
                obtain ⟨rfl, rfl⟩ := HY1.out (la[k + 1]'hk1l) (List.getElem?_eq_getElem hk1l)
                have b1 : decide ((K1 : Int) < (n1 : Int)) = true := by simp; omega
                have b2 : decide (K1 < n1) = true := by simp; omega
                have b3 : (K1 : Int) < (n1 : Int) := by omega
                have b4 : K1 < n1 := by omega
                have b5 := hkc (k + 1) hk1
                generalize la[k + 1]'hk1l = y at *
                rw [hK1] at b5
                have b6 : (y != y) = false := by simp
                have HKZ := Lib.hid hk0
                clear hkc hkx hk1 hk0 hK1 hKm a6
                go_wp2
                go_quiet (fail)
                go_wp2
                go_roundw
                case rel => exact ⟨K1, by omega, rfl, below_drewN HBV.out _⟩
                case measure => have := HK1.out; simp [intOf]; omega
              · obtain rfl : bn = false := HY2.out (List.getElem?_eq_none (by rw [HL1.out]; omega))
                have b1 : decide ((K1 : Int) < (n1 : Int)) = false := by simp; omega
                have b2 : decide (K1 < n1) = false := by simp; omega
                have HKZ := Lib.hid hk0
                have b4 : K1 ≤ n1 := by omega
                clear hkc hkx hk1 hk0 hK1 hKm a6
                go_wp2
                go_quiet (fail)
                go_wp2
                go_roundw
                case rel => exact ⟨K1, by omega, rfl, below_drewN HBV.out _⟩
                case measure => have := HK1.out; simp [intOf]; omega
          · obtain ⟨V0, hV0⟩ : ∃ V0, (wr.alloc (.cells #[.int .i64 0, .int .i64 z, .int .i64 0, .bool bp] 36)).alloc (.cells #[.int .i64 0, .int .i64 y, .int .i64 0, .bool bn] 36) = V0 := ⟨_, rfl⟩
            have hVb : Below wr.heap.size wr V0 := by rw [← hV0]; exact ((Below.refl _ _).alloc (Nat.le_refl _) _).alloc (by simp) _
            have hB1 : V0.heap[wr.heap.size]? = some (.cells #[.int .i64 0, .int .i64 z, .int .i64 0, .bool bp] 36 (0, 0)) := by
              rw [← hV0]
              exact (Below.heap_alloc _ _ _ (by simp)).trans (heap_alloc_new wr _)
            have hB2 : V0.heap[wr.heap.size + 1]? = some (.cells #[.int .i64 0, .int .i64 y, .int .i64 0, .bool bn] 36 (0, 0)) := by
              rw [← hV0]
              have := heap_alloc_new (wr.alloc (.cells #[.int .i64 0, .int .i64 z, .int .i64 0, .bool bp] 36)) (.cells #[.int .i64 0, .int .i64 y, .int .i64 0, .bool bn] 36)
              simpa using this
            obtain ⟨V, hV⟩ : ∃ V, V0.drew = V := ⟨_, rfl⟩
            have hVc : ∀ a, V.cell? a = V0.cell? a := fun a => by rw [← hV]; rfl
            have HBV : Hid (Below w5.heap.size w5 V) := by show Below _ _ _; rw [← hV]; exact (HNX.out.trans (hVb.mono hzi)).drew
            have hkc : ∀ i (h : i < n1), V.cell? ⟨b, off + i, none⟩ = some (I (la[i]'(by rw [HL1.out]; exact h))) := fun i h => ((hVc _).trans (hVb.cell (by exact hbw))).trans (HKC.out i h)
            rw [hV0, hV]
            have d1 : V.cell? ⟨wr.heap.size + 1, 1, none⟩ = some (I y) := by rw [hVc]; simp [World.cell?, hB2]
            have d3 : V.cell? ⟨wr.heap.size + 1, 3, none⟩ = some (.bool bn) := by rw [hVc]; simp [World.cell?, hB2]
            have r1 : V.cell? ⟨wr.heap.size, 1, none⟩ = some (I z) := by rw [hVc]; simp [World.cell?, hB1]
            have r3 : V.cell? ⟨wr.heap.size, 3, none⟩ = some (.bool bp) := by rw [hVc]; simp [World.cell?, hB1]
            have hkx := (hkc k hlt)
            clear hV hV0 hVc hVb hB1 hB2 s0 s1 s2 s3 t0 t1 t2 t3
            obtain ⟨K1, hK1⟩ : ∃ K1, k + 1 = K1 := ⟨_, rfl⟩
            have w1' : IntKind.i64.wrap ((k : Int) + 1) = (K1 : Int) := by rw [IntWalk.i64_in _ (by omega)]; omega
            have HK1 := Lib.hid hK1
            by_cases hk0 : k = 0
            · obtain rfl : bp = false := HZ2.out (by rw [if_pos hk0])
              have a1 : decide ((0 : Int) < (k : Int)) = false := by simp; omega
              have a2 : decide (0 < k) = false := by simp; omega
              by_cases hk1 : k + 1 < n1
              · have hk1l : k + 1 < la.length := by rw [HL1.out]; exact hk1
                obtain ⟨rfl, rfl⟩ := HY1.out (la[k + 1]'hk1l) (List.getElem?_eq_getElem hk1l)
                have b1 : decide ((K1 : Int) < (n1 : Int)) = true := by simp; omega
                have b2 : decide (K1 < n1) = true := by simp; omega
                have b3 : (K1 : Int) < (n1 : Int) := by omega
                have b4 : K1 < n1 := by omega
                have b5 := hkc (k + 1) hk1
                generalize la[k + 1]'hk1l = y at *
                rw [hK1] at b5
                have b6 : (y != y) = false := by simp
                have HKZ := Lib.hid hk0
                clear hkc hkx hk1 hk0 hK1 hk1l
                go_wp2
                go_quiet (fail)
                go_wp2
                go_roundw
                case rel => exact ⟨K1, by omega, rfl, below_drewN HBV.out _⟩
                case measure => have := HK1.out; simp [intOf]; omega
              · obtain rfl : bn = false := HY2.out (List.getElem?_eq_none (by rw [HL1.out]; omega))
                have b1 : decide ((K1 : Int) < (n1 : Int)) = false := by simp; omega
                have b2 : decide (K1 < n1) = false := by simp; omega
                have HKZ := Lib.hid hk0
                have b4 : K1 ≤ n1 := by omega
                clear hkc hkx hk1 hk0 hK1
                go_wp2
                go_quiet (fail)
                go_wp2
                go_roundw
                case rel => exact ⟨K1, by omega, rfl, below_drewN HBV.out _⟩
                case measure => have := HK1.out; simp [intOf]; omega
            · obtain ⟨Km, hKm⟩ : ∃ Km, k - 1 = Km := ⟨_, rfl⟩
              have w2' : IntKind.i64.wrap ((k : Int) - 1) = (Km : Int) := by rw [IntWalk.i64_in _ (by omega)]; omega
              obtain ⟨rfl, rfl⟩ := HZ1.out (la[k - 1]'(by omega)) (by rw [if_neg hk0]; exact List.getElem?_eq_getElem (by omega))
              have a1 : decide ((0 : Int) < (k : Int)) = true := by simp; omega
              have a2 : decide (0 < k) = true := by simp; omega
              have a3 : (Km : Int) < (n1 : Int) := by omega
              have a4 : Km < n1 := by omega
              have a5 := hkc (k - 1) (by omega)
              have a6 := HUX.out (by omega)
              generalize la[k - 1]'(by omega) = z at *
              rw [hKm] at a5
              have a7 : decide (x ≤ z) = false := by simp; omega
              have a8 : (z != z) = false := by simp
              by_cases hk1 : k + 1 < n1
              · have hk1l : k + 1 < la.length := by rw [HL1.out]; exact hk1
                obtain ⟨rfl, rfl⟩ := HY1.out (la[k + 1]'hk1l) (List.getElem?_eq_getElem hk1l)
                have b1 : decide ((K1 : Int) < (n1 : Int)) = true := by simp; omega
                have b2 : decide (K1 < n1) = true := by simp; omega
                have b3 : (K1 : Int) < (n1 : Int) := by omega
                have b4 : K1 < n1 := by omega
                have b5 := hkc (k + 1) hk1
                generalize la[k + 1]'hk1l = y at *
                rw [hK1] at b5
                have b6 : (y != y) = false := by simp
                have HKZ := Lib.hid hk0
                clear hkc hkx hk1 hk0 hK1 hKm a6
                go_wp2
                go_quiet (fail)
                go_wp2
                go_roundw
                case rel => exact ⟨K1, by omega, rfl, below_drewN HBV.out _⟩
                case measure => have := HK1.out; simp [intOf]; omega
              · obtain rfl : bn = false := HY2.out (List.getElem?_eq_none (by rw [HL1.out]; omega))
                have b1 : decide ((K1 : Int) < (n1 : Int)) = false := by simp; omega
                have b2 : decide (K1 < n1) = false := by simp; omega
                have HKZ := Lib.hid hk0
                have b4 : K1 ≤ n1 := by omega
                clear hkc hkx hk1 hk0 hK1 hKm a6
                go_wp2
                go_quiet (fail)
                go_wp2
                go_roundw
                case rel => exact ⟨K1, by omega, rfl, below_drewN HBV.out _⟩
                case measure => have := HK1.out; simp [intOf]; omega
        · go_wp2
          go_ret
          exact ⟨rfl, HB5.out.trans (HNX.out.mono HB5.out.size)⟩
theorem qwalk_any (A : Option Addr) (n c : Nat) (ops : List OP) (w : World) (h : OS w A n c ops) (hm : n ≤ 9223372036854775807) :
    Calls Try.prog 5 #[.slice A n c] w (YesQ w) := by
  by_cases hb : 100 < n
  · exact qwalk_bad A n c ops w h hm hb
  · exact qwalk_ok A n c ops w h (by omega)

end Go.Proofs.Ytolfpjleckckiaa
