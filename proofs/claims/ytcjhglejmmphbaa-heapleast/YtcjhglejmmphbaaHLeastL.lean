/-
  HeapLeast: the place of the nearest lesser number ahead stands above, in the tree of places with numbers turned for ranks; and it is the nearest so among those that stand to the left and above.
-/
import Derived.Test.YtcjhglejmmphbaaHLaw
import Derived.Test.YtcjhglejmmphbaaHLeastP
namespace Go.Proofs.Ytcjhglejmmphbaa
open Go.RowKit

theorem hsrc_one (w : World) (k d : Int) : Src (w.alloc (.cells #[I k, I d] 37)) (some ⟨w.heap.size, 0, none⟩) 1 [(k, d)] := by
  refine ⟨rfl, fun _ => ⟨_, rfl, fun j u hu => ?_⟩⟩
  match j with
  | 0 => simp [flat] at hu; simp [Addr.add, ← hu]
  | 1 => simp [flat] at hu; simp [Addr.add, ← hu]
  | j + 2 => simp [flat] at hu

set_option maxRecDepth 100000 in
set_option maxHeartbeats 8000000 in
theorem hleast_small (A : Option Addr) (n c : Nat) (l : List Int) (w : World) (h : IS w A n c l) (hn : n ≤ 60) :
    Calls Try.prog 7 #[.slice A n c] w fun e w' => e = .returned (.bool true) ∧ Below w.heap.size w w' := by
  have HO := Lib.hid (Least_ok A n c l w h (by omega))
  have H := Lib.hid h
  have HL := Lib.hid h.len
  have hn60 : ¬ 60 < (n : Int) := by omega
  clear h
  go_enter Try.func7, Try.ntmps7
  go_wp2_with fail
  refine HO.out.mono ?_
  rintro e w1 ⟨A1, rfl, hi1, hb1⟩
  have HB1 := Lib.hid hb1
  have H1 := Lib.hid (H.out.below hb1)
  have HN1 := Lib.hid hi1
  clear hb1 hi1 HO H
  go_wp2_with fail
  refine (heapLives_any w1).mono ?_
  rintro e w2 ⟨rfl, hb2⟩
  have HB2 := Lib.hid (below_next HB1.out hb2)
  have H2 := Lib.hid (H1.out.below hb2)
  have HN2 := Lib.hid (HN1.out.below hb2)
  clear hb2 HB1 H1 HN1
  go_wp2
  go_loopg [5, 33] n (fun g v i wr => ∃ k : Nat, k ≤ n ∧ n - k ≤ g ∧ i = .int .i64 k ∧ OwnR wr w2.heap.size 37 v (prs l k) ∧ Below w2.heap.size w2 wr)
  case atStart => exact ⟨0, Nat.zero_le _, by omega, rfl, World.ownsRow_nil _ _ _ _, Below.refl _ _⟩
  case round =>
  obtain ⟨k, hk, hkm, rfl, hown, hnx⟩ := hrel
  have HNX := Lib.hid hnx
  have HOW := Lib.hid hown
  have hsz := hnx.size
  clear hnx hown
  by_cases hlt : k < n
  · obtain ⟨b0, o0, rfl, hb0, hc0⟩ := H2.out.dat (by omega)
    have hck : wr.cell? ⟨b0, o0 + k, none⟩ = some (I (l[k]?.getD 0)) := (HNX.out.cell (by exact hb0)).trans (hc0 k hlt)
    have HSN := Lib.hid (prs_snoc l k)
    have hpl := prs_length l k
    clear hc0
    generalize l[k]?.getD 0 = x at *
    by_cases hx1 : x < -1000000000
    · go_wp2
      go_ret
      exact ⟨rfl, below_next HB2.out HNX.out⟩
    · by_cases hx2 : 1000000000 < x
      · go_wp2
        go_ret
        exact ⟨rfl, below_next HB2.out HNX.out⟩
      · have hw : IntKind.i64.wrap (-x) = -x := IntWalk.i64_in _ (by omega)
        go_wp2_with (first
          | (at_builtin
             refine wpList_app2 rfl (.tmp 44) (.tmp 49) 22 rfl 37 Try.underlying22 hpair_info w2.heap.size u5 (prs l k) [((k : Int), -x)] (some ⟨wr.heap.size, 0, none⟩) 1 1 rfl rfl (own_below HOW.out ((Below.refl _ _).alloc (Nat.le_refl _) _)) (hsrc_one wr k (-x)) ?hbd ?hbs ?_
             case hbd => rw [hpl]; omega
             case hbs => simp; omega
             intro v3 w3 hown3 hgrow3 _
             have HB3 : Hid (Below w2.heap.size w2 w3) := (HNX.out.alloc hsz _).grown hgrow3 (by simp; omega) (fun i hi => OwnR.ge HOW.out i hi)
             have HO3 : Hid (OwnR w3 w2.heap.size 37 v3 (prs l (k + 1))) := by
               show OwnR _ _ _ _ _
               rw [HSN.out]
               exact hown3
             clear hown3 hgrow3)
          | fail)
        go_roundg (gk - 1)
        case measure => omega
        case rel => exact ⟨k + 1, by omega, by omega, by go_num, HO3.out, HB3.out⟩
  obtain rfl : k = n := by omega
  obtain ⟨A3, c3, rfl, hp3, _⟩ := OwnR.ps HOW.out
  rw [prs_length] at hp3 ⊢
  have HP3 := Lib.hid hp3
  obtain ⟨t, ht⟩ := hp_has (prs l k).length (prs l k) (Nat.le_refl _)
  have HT := Lib.hid ht
  have HCK := Lib.hid (prs_right l k (by omega))
  have HTT := Lib.hid (hp_tree ht HCK.out)
  have HTL : Hid ((t.sp 0).length = k) := by show _ = _; rw [sp_length, ← hp_len ht, prs_length]
  have hb := HNX.out
  have HB3 := Lib.hid (below_next HB2.out hb)
  have H3 := Lib.hid (H2.out.below hb)
  have HN3 := Lib.hid (HN2.out.below hb)
  clear hp3 ht hb HNX HOW HB2 H2 HN2 hsz
  go_wp2_with fail
  refine (HOf_ok A3 k c3 (prs l k) t wr HP3.out HCK.out HT.out).mono ?_
  rintro e w4 ⟨A4, c4, rfl, hp4, hb4⟩
  have HB4 := Lib.hid (below_next HB3.out hb4)
  have H4 := Lib.hid (H3.out.below hb4)
  have HN4 := Lib.hid (HN3.out.below hb4)
  have HS4 := Lib.hid hp4
  clear hp4 hb4 HB3 H3 HN3 HP3
  go_wp2_with fail
  refine (Parents_is A4 k c4 (t.sp 0) w4 HS4.out HTT.out).mono ?_
  rintro e w5 ⟨A5, c5, rfl, hi5, hb5⟩
  have HB5 := Lib.hid (below_next HB4.out hb5)
  have H5 := Lib.hid (H4.out.below hb5)
  have HN5 := Lib.hid (HN4.out.below hb5)
  have HP5 := Lib.hid hi5
  clear hi5 hb5 HB4 H4 HN4 HS4
  go_wp2_with fail
  refine (ok_any _ 2 2 [0, 0] _ (is_new w5 25 [0, 0]) (by omega) (by simp)).mono ?_
  rintro e w6 ⟨rfl, rfl⟩
  obtain ⟨V, hV⟩ : ∃ V, w5.alloc (Obj.cells #[I 0, I 0] 25) = V := ⟨_, rfl⟩
  have HB7 : Hid (Below w.heap.size w V) := by show Below _ _ _; rw [← hV]; exact HB5.out.alloc HB5.out.size _
  have H7 : Hid (IS V A k c l) := by show IS _ _ _ _ _; rw [← hV]; exact H5.out.alloc _
  have HN7 : Hid (IS V A1 k k (nearL l)) := by show IS _ _ _ _ _; rw [← hV]; exact HN5.out.alloc _
  have HP7 : Hid (IS V A5 k c5 (parL (t.sp 0))) := by show IS _ _ _ _ _; rw [← hV]; exact HP5.out.alloc _
  have HV := Lib.hid hV
  clear HB5 H5 HN5 HP5 hV
  have hkk : ((k : Int) != (k : Int)) = false := by simp
  go_wp2
  have hV := HV.out
  rw [hV]
  clear hV HV
  obtain ⟨d, hd⟩ : ∃ d, d = k := ⟨_, rfl⟩
  subst hd
  go_loopg [76] d (fun g i wr => ∃ k : Nat, k ≤ d ∧ d - k ≤ g ∧ i = .int .i64 k ∧ Below V.heap.size V wr)
  case atStart => exact ⟨0, Nat.zero_le _, by omega, rfl, Below.refl _ _⟩
  case round =>
    obtain ⟨k, hk, hkm, rfl, hnx⟩ := hrel
    have HNX := Lib.hid hnx
    have hsz := hnx.size
    clear hnx
    by_cases hlt : k < d
    · obtain ⟨b0, o0, rfl, hb0, hc0⟩ := H7.out.dat (by omega)
      obtain ⟨b1, o1, rfl, hb1, hc1⟩ := HN7.out.dat (by omega)
      obtain ⟨b2, o2, rfl, hb2, hc2⟩ := HP7.out.dat (by omega)
      have HC0 : Hid (∀ i, i < d → V.cell? ⟨b0, o0 + i, none⟩ = some (I (l[i]?.getD 0))) := hc0
      have HC1 : Hid (V.cell? ⟨b1, o1 + k, none⟩ = some (I (near l k))) := by
        have := hc1 k hlt
        rwa [nearL_at l k (by rw [HL.out]; exact hlt)] at this
      have HC2 : Hid (∀ i, i < d → V.cell? ⟨b2, o2 + i, none⟩ = some (I (par (t.sp 0) i))) := fun i hi => by
        have := hc2 i hi
        rwa [parL_get _ i (by rw [HTL.out]; exact hi)] at this
      have hcp : wr.cell? ⟨b2, o2 + k, none⟩ = some (I (par (t.sp 0) k)) := (HNX.out.cell (by exact hb2)).trans (HC2.out k hlt)
      have HST : Hid (∀ q, Wy l d k q → (k < q ∨ l[k]?.getD 0 ≤ l[q]?.getD 0) → (par (t.sp 0) q = -1 ∧ near l k = -1) ∨ ∃ r : Nat, par (t.sp 0) q = r ∧ Wy l d k r ∧ (dp (t.sp 0) r).toNat < (dp (t.sp 0) q).toNat) := fun q hq hcd => by
        rcases hq.step HT.out hlt hcd with e | ⟨r, e1, e2, e3⟩
        · exact .inl e
        · have := (tree_dp HTT.out r).1
          exact .inr ⟨r, e1, e2, by omega⟩
      have HEX : Hid (∀ q, Wy l d k q → ¬ k < q → l[q]?.getD 0 < l[k]?.getD 0 → near l k = q) := fun q hq h1 h2 => hq.exit hlt h1 h2
      have HDP : Hid (∀ q, (dp (t.sp 0) q).toNat < 1000) := fun q => by have := tree_dp HTT.out q; omega
      clear hc0 hc1 hc2
      have HAT : Hid ((par (t.sp 0) k = -1 ∧ near l k = -1) ∨ ∃ r : Nat, par (t.sp 0) k = r ∧ Wy l d k r) := by
        rcases HST.out k (Wy.start hlt) (.inr (Int.le_refl _)) with e | ⟨r, e1, e2, _⟩
        · exact .inl e
        · exact .inr ⟨r, e1, e2⟩
      obtain ⟨a0, ha0⟩ : ∃ a0, par (t.sp 0) k = a0 := ⟨_, rfl⟩
      rw [ha0] at hcp HAT
      clear ha0
      go_wp2
      go_loopg [13] 1000 (fun g x wr' => Below V.heap.size V wr' ∧ ((x = .int .i64 (-1) ∧ near l k = -1) ∨ ∃ q : Nat, Wy l d k q ∧ (dp (t.sp 0) q).toNat < g ∧ x = .int .i64 q))
      case atStart =>
        refine ⟨HNX.out, ?_⟩
        rcases HAT.out with ⟨e, e2⟩ | ⟨r, e, e2⟩
        · exact .inl ⟨by rw [e], e2⟩
        · exact .inr ⟨r, e2, HDP.out r, by rw [e]⟩
      case round =>
        obtain ⟨hny, hx⟩ := hrel
        have HNY := Lib.hid hny
        have hszy := hny.size
        have hcn : wr.cell? ⟨b1, o1 + k, none⟩ = some (I (near l k)) := (hny.cell (by exact hb1)).trans HC1.out
        have hck : wr.cell? ⟨b0, o0 + k, none⟩ = some (I (l[k]?.getD 0)) := (hny.cell (by exact hb0)).trans (HC0.out k hlt)
        have hbw : b0 < wr.heap.size := by omega
        clear hny
        rcases hx with ⟨rfl, hnr⟩ | ⟨q, hq, hqg, rfl⟩
        · rw [hnr] at hcn
          clear hnr hcp
          go_wp2
          go_quiet (fail)
          go_wp2
          go_roundg (d - (k + 1))
          case measure => omega
          case rel => exact ⟨k + 1, by omega, by omega, by go_num, below_drewN HNY.out _⟩
        · have hqd := hq.lt
          have hcq : wr.cell? ⟨b0, o0 + q, none⟩ = some (I (l[q]?.getD 0)) := (HNY.out.cell (by exact hb0)).trans (HC0.out q hqd)
          have hcr : wr.cell? ⟨b2, o2 + q, none⟩ = some (I (par (t.sp 0) q)) := (HNY.out.cell (by exact hb2)).trans (HC2.out q hqd)
          have hq0 : (0 : Int) ≤ (q : Int) := by omega
          have hqi : (q : Int) < (d : Int) := by omega
          have HQ := Lib.hid hq
          clear hq hcp
          by_cases hkq : k < q
          · have hd1 : decide ((k : Int) < (q : Int)) = true := by simp; omega
            have HSQ := Lib.hid (HST.out q HQ.out (.inl hkq))
            obtain ⟨r0, hr0⟩ : ∃ r0, par (t.sp 0) q = r0 := ⟨_, rfl⟩
            rw [hr0] at hcr HSQ
            clear hr0
            go_wp2
            go_quiet (fail)
            go_wp2
            go_roundg (gk - 1)
            case measure => omega
            case rel =>
              refine ⟨below_drewN HNY.out _, ?_⟩
              rcases HSQ.out with ⟨e, e2⟩ | ⟨r, e, e2, e3⟩
              · exact .inl ⟨by rw [e], e2⟩
              · exact .inr ⟨r, e2, by omega, by rw [e]⟩
          · have hd1 : decide ((k : Int) < (q : Int)) = false := by simp; omega
            by_cases hle : l[k]?.getD 0 ≤ l[q]?.getD 0
            · have HSQ := Lib.hid (HST.out q HQ.out (.inr hle))
              obtain ⟨r0, hr0⟩ : ∃ r0, par (t.sp 0) q = r0 := ⟨_, rfl⟩
              rw [hr0] at hcr HSQ
              clear hr0
              generalize l[k]?.getD 0 = xk at *
              generalize l[q]?.getD 0 = xq at *
              have hd2 : decide (xk ≤ xq) = true := by simpa using hle
              go_wp2
              go_quiet (fail)
              go_wp2
              go_roundg (gk - 1)
              case measure => omega
              case rel =>
                refine ⟨below_drewN HNY.out _, ?_⟩
                rcases HSQ.out with ⟨e, e2⟩ | ⟨r, e, e2, e3⟩
                · exact .inl ⟨by rw [e], e2⟩
                · exact .inr ⟨r, e2, by omega, by rw [e]⟩
            · have hnq := HEX.out q HQ.out hkq (by omega)
              rw [hnq] at hcn
              have hqq : ((q : Int) != (q : Int)) = false := by simp
              clear hnq
              generalize l[k]?.getD 0 = xk at *
              generalize l[q]?.getD 0 = xq at *
              have hd2 : decide (xk ≤ xq) = false := by simpa using hle
              go_wp2
              go_quiet (fail)
              go_wp2
              go_roundg (d - (k + 1))
              case measure => omega
              case rel => exact ⟨k + 1, by omega, by omega, by go_num, below_drewN HNY.out _⟩
    · go_wp2
      go_ret
      exact ⟨rfl, below_next HB7.out HNX.out⟩

set_option maxRecDepth 100000 in
set_option maxHeartbeats 4000000 in
theorem hleast_long (A : Option Addr) (n c : Nat) (l : List Int) (w : World) (h : IS w A n c l) (hn : 60 < n) (hm : n ≤ 9223372036854775807) :
    Calls Try.prog 7 #[.slice A n c] w fun e w' => e = .returned (.bool true) ∧ Below w.heap.size w w' := by
  have hn60 : 60 < (n : Int) := by omega
  by_cases hl : 200 < n
  · clear h
    go_enter Try.func7, Try.ntmps7
    go_wp2_with fail
    refine (Least_large A n c w hl).mono ?_
    rintro e w1 ⟨rfl, rfl⟩
    go_wp2_with fail
    refine (heapLives_any w).mono ?_
    rintro e w2 ⟨rfl, hb2⟩
    have HB2 := Lib.hid hb2
    clear hb2
    go_wp2_with fail
    refine (heapLives_any w2).mono ?_
    rintro e w3 ⟨rfl, hb3⟩
    have HB3 := Lib.hid (below_next HB2.out hb3)
    clear hb3
    go_wp2
    go_ret
    exact ⟨rfl, HB3.out⟩
  · have HO := Lib.hid (Least_ok A n c l w h (by omega))
    clear h
    go_enter Try.func7, Try.ntmps7
    go_wp2_with fail
    refine HO.out.mono ?_
    rintro e w1 ⟨A1, rfl, _, hb1⟩
    have HB1 := Lib.hid hb1
    clear hb1
    go_wp2_with fail
    refine (heapLives_any w1).mono ?_
    rintro e w2 ⟨rfl, hb2⟩
    have HB2 := Lib.hid (below_next HB1.out hb2)
    clear hb2
    go_wp2_with fail
    refine (heapLives_any w2).mono ?_
    rintro e w3 ⟨rfl, hb3⟩
    have HB3 := Lib.hid (below_next HB2.out hb3)
    clear hb3
    go_wp2
    go_ret
    exact ⟨rfl, HB3.out⟩
theorem hleast_any (A : Option Addr) (n c : Nat) (l : List Int) (w : World) (h : IS w A n c l) (hm : n ≤ 9223372036854775807) :
    Calls Try.prog 7 #[.slice A n c] w fun e w' => e = .returned (.bool true) ∧ Below w.heap.size w w' := by
  by_cases hn : n ≤ 60
  · exact hleast_small A n c l w h hn
  · exact hleast_long A n c l w h (by omega) hm

end Go.Proofs.Ytcjhglejmmphbaa
