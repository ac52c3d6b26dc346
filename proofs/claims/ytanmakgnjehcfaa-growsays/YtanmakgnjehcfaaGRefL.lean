/-
  hedgref.SortedKeys, HeldOften.
-/
import Derived.Test.YtanmakgnjehcfaaGRefK
namespace Go.Proofs.Ytanmakgnjehcfaa
open Go.RowKit

theorem last_succ {s : List Int} {j : Nat} (h : j < s.length) : prevOf s (j + 1) = s[j] := by
  unfold prevOf
  rw [if_neg (by omega), Nat.add_sub_cancel, List.getElem?_eq_getElem h]
  rfl

set_option maxRecDepth 100000 in
set_option maxHeartbeats 2000000 in
theorem SortedKeys_any (A : Option Addr) (n c : Nat) (l : List Int) (w : World) (h : IS w A n c l) (hu : unl l = 0) :
    Calls Try.prog 15 #[.slice A n c] w (RetOwn (qs l) w.heap.size w) := by
  obtain ⟨hl2, hrg, hnd⟩ := unl_zero.1 hu
  have hn2 : n ≤ 200 := by rw [← h.len]; exact hl2
  have hs := qs_gro _ l (Nat.le_refl _) hnd
  have HUP : Hid (Up (qs l)) := by show Up _; rw [hs]; exact up_gro up_nil l
  have HMM : Hid (∀ x, x ∈ qs l ↔ x ∈ l) := fun x => by
    rw [hs, mem_gro]
    simp [Tr.ks]
  have HSL : Hid ((qs l).length = n) := by show _ = _; rw [qs_length _ l (Nat.le_refl _), h.len]
  have HPO : Hid (∀ x ∈ l, 0 ≤ x) := fun x hx => (hrg x hx).1
  have H := Lib.hid h
  have HL := Lib.hid h.len
  generalize qs l = s at *
  clear h hu hl2 hrg hnd hs
  go_enter Try.func15, Try.ntmps15
  go_wp2
  go_loopg [3, 4, 10] n (fun m v la i wr => ∃ j : Nat, j ≤ n ∧ n - j ≤ m ∧ i = .int .i64 j ∧ la = I (prevOf s j) ∧ OwnI wr w.heap.size v (s.take j) ∧ Below w.heap.size w wr)
  case atStart => exact ⟨0, Nat.zero_le _, by omega, rfl, rfl, World.ownsRow_nil _ _ _ _, Below.refl _ _⟩
  case round =>
    obtain ⟨j, hj, hjm, rfl, rfl, hown, hnx⟩ := hrel
    have HOWN := Lib.hid hown
    have HNX := Lib.hid hnx
    have hsz := hnx.size
    clear hown hnx
    by_cases hjn : j < n
    · have hjs : j < s.length := by rw [HSL.out]; exact hjn
      have HNE := Lib.hid (nx_next HPO.out HUP.out HMM.out j hjs)
      have HLS := Lib.hid (last_succ hjs)
      have HTS := Lib.hid (take_snoc hjs)
      have htl : (s.take j).length ≤ 200 := by rw [List.length_take]; omega
      generalize s[j] = y at HNE HLS HTS
      generalize prevOf s j = la at *
      go_wp2
      go_loopg [5, 14] n (fun m ne i wr' => ∃ k : Nat, k ≤ n ∧ n - k ≤ m ∧ i = .int .i64 k ∧ wr' = wr ∧ ne = I (nx la (l.take k)))
      case atStart => exact ⟨0, Nat.zero_le _, by omega, rfl, rfl, rfl⟩
      case round =>
        obtain ⟨k, hk, hkm, rfl, rfl, rfl⟩ := hrel
        by_cases hkn : k < n
        · obtain ⟨b, off, rfl, hb, hc⟩ := H.out.at_ (by omega)
          have hkl : k < l.length := by rw [HL.out]; exact hkn
          have hck : wr.cell? ⟨b, off + k, none⟩ = some (I l[k]) := (HNX.out.cell (by exact hb)).trans (hc k hkn)
          have HN := Lib.hid (show nx la (l.take (k + 1)) = nxS la (nx la (l.take k)) l[k] by rw [take_snoc hkl, nx_snoc])
          clear hc
          generalize l[k] = x at *
          generalize nx la (l.take k) = ne at *
          by_cases h1 : la < x
          · by_cases h2 : ne < 0
            · have HN2 : Hid (nx la (l.take (k + 1)) = x) := by show _ = _; rw [HN.out, nxS, if_pos ⟨h1, .inl h2⟩]
              go_wp2
              go_roundg (n - (k + 1))
              case measure => omega
              case rel => exact ⟨k + 1, by omega, Nat.le_refl _, by go_num, rfl, by rw [HN2.out]⟩
            · by_cases h3 : x < ne
              · have HN2 : Hid (nx la (l.take (k + 1)) = x) := by show _ = _; rw [HN.out, nxS, if_pos ⟨h1, .inr h3⟩]
                go_wp2
                go_roundg (n - (k + 1))
                case measure => omega
                case rel => exact ⟨k + 1, by omega, Nat.le_refl _, by go_num, rfl, by rw [HN2.out]⟩
              · have HN2 : Hid (nx la (l.take (k + 1)) = ne) := by show _ = _; rw [HN.out, nxS, if_neg (fun q => by rcases q.2 with q | q <;> omega)]
                go_wp2
                go_roundg (n - (k + 1))
                case measure => omega
                case rel => exact ⟨k + 1, by omega, Nat.le_refl _, by go_num, rfl, by rw [HN2.out]⟩
          · have HN2 : Hid (nx la (l.take (k + 1)) = ne) := by show _ = _; rw [HN.out, nxS, if_neg (fun q => h1 q.1)]
            go_wp2
            go_roundg (n - (k + 1))
            case measure => omega
            case rel => exact ⟨k + 1, by omega, Nat.le_refl _, by go_num, rfl, by rw [HN2.out]⟩
        · have ht : l.take k = l := List.take_of_length_le (by rw [HL.out]; omega)
          rw [ht, HNE.out]
          clear ht
          go_wp2_with (first
            | (at_builtin
               refine wpList_app1 rfl (.tmp 32) (.tmp 34) 23 rfl 3 Try.underlying23 int_info w.heap.size u3 (s.take j) [y] (some ⟨wr.heap.size, 0, none⟩) 1 1 rfl rfl (own_below HOWN.out ((Below.refl _ _).alloc (Nat.le_refl _) _)) (srcI_one wr y) (by omega) (by simp; omega) ?_
               intro v2 w2 hown2 hgrow2 hat2)
            | fail)
          have HB2 := Lib.hid ((HNX.out.alloc hsz _).grown hgrow2 (by simp; omega) (own_ge1 HOWN.out))
          have HO2 : Hid (OwnI w2 w.heap.size v2 (s.take (j + 1))) := by show OwnI _ _ _ _; rw [HTS.out]; exact hown2
          clear hown2 hgrow2 hat2
          go_wp2
          go_roundg (n - (j + 1))
          case measure => omega
          case rel => exact ⟨j + 1, by omega, Nat.le_refl _, by go_num, by rw [HLS.out], HO2.out, HB2.out⟩
    · have ht : s.take j = s := List.take_of_length_le (by rw [HSL.out]; omega)
      rw [ht] at HOWN
      clear ht
      go_wp2
      go_ret
      exact ⟨u3, rfl, HOWN.out, HNX.out⟩

set_option maxRecDepth 100000 in
set_option maxHeartbeats 4000000 in
theorem HeldOften_any : ∀ (m : Nat) (l : List Int), l.length ≤ m → ∀ (A : Option Addr) (n c : Nat) (w : World), IS w A n c l → n ≤ 200 →
    Calls Try.prog 16 #[.slice A n c] w fun e w' => e = .returned (I (hel l)) ∧ Below w.heap.size w w' := by
  intro m
  induction m with
  | zero =>
    intro l hl A n c w h hn
    have hl0 : l = [] := List.eq_nil_of_length_eq_zero (by omega)
    have hn0 : n = 0 := by rw [← h.len, hl0]; rfl
    subst hn0
    subst hl0
    clear h hl hn
    rw [hel_nil]
    go_enter Try.func16, Try.ntmps16
    go_wp2
    go_ret
    exact ⟨rfl, Below.refl _ _⟩
  | succ m ih =>
    intro l hl A n c w h hn
    by_cases h2 : n < 2
    · have hq : hel l = 0 := by
        match l, h.len with
        | [], _ => exact hel_nil
        | [x], _ => rw [hel_cons]; simp [lo, hi, hel_nil]
        | x :: y :: r, e => simp at e; omega
      rw [hq]
      have h2' : (n : Int) < 2 := by omega
      clear h hl hn hq ih
      go_enter Try.func16, Try.ntmps16
      go_wp2
      go_ret
      exact ⟨rfl, Below.refl _ _⟩
    · match l, h.len, hl with
      | [], e, _ => simp at e; omega
      | x :: r, hlen, hl =>
      have hrl : r.length = n - 1 := by simp at hlen; omega
      have hcap := h.rd.1
      obtain ⟨b, off, rfl, hb, hc⟩ := h.at_ (by omega)
      have hc0 : w.cell? ⟨b, off, none⟩ = some (I x) := by simpa using hc 0 (by omega)
      have HT : Hid (IS w (some ⟨b, off + 1, none⟩) (n - 1) (c - 1) r) := by
        have := h.drop (c' := c - 1) 1 (by omega) (some ⟨b, off + 1, none⟩) (fun _ b' off' e => by cases e; rfl) (by omega)
        simp only [List.drop_succ_cons, List.drop_zero] at this
        exact this
      have hlh := lo_hi x r
      have b1 := hel_bd _ (lo x r) (Nat.le_refl _) (by omega)
      have b2 := hel_bd _ (hi x r) (Nat.le_refl _) (by omega)
      have hll : (lo x r).length ≤ 200 := by omega
      have hhl : (hi x r).length ≤ 200 := by omega
      have hll2 : (lo x r).length ≤ m := by simp at hl; omega
      have hhl2 : (hi x r).length ≤ m := by simp at hl; omega
      have HXL := Lib.hid (show (r.length : Int) = ((lo x r).length : Int) + (hi x r).length by omega)
      have IH := Lib.hid ih
      have HRL := Lib.hid hrl
      have h2' : ¬ (n : Int) < 2 := by omega
      have hn0 : 0 < n := by omega
      have hc1 : c ≠ 1 := by omega
      have h1c : 1 ≤ n := by omega
      rw [hel_cons, HXL.out]
      clear h hc ih hlen hl hrl hlh
      go_enter Try.func16, Try.ntmps16
      go_wp2
      go_loopg [3, 4, 13] (n - 1) (fun m' u v i wr => ∃ j : Nat, j ≤ n - 1 ∧ n - 1 - j ≤ m' ∧ i = .int .i64 j ∧ OwnI wr w.heap.size u (lo x (r.take j)) ∧ OwnI wr w.heap.size v (hi x (r.take j)) ∧ Apt u v ∧ Below w.heap.size w wr)
      case atStart => exact ⟨0, Nat.zero_le _, by omega, rfl, World.ownsRow_nil _ _ _ _, World.ownsRow_nil _ _ _ _, fun g hg => by simp [Value.ownBlock] at hg, Below.refl _ _⟩
      case round =>
        obtain ⟨j, hj, hjm, rfl, ho6, ho7, hap, hnx⟩ := hrel
        have HO6 := Lib.hid ho6
        have HO7 := Lib.hid ho7
        have HAP := Lib.hid hap
        have HNX := Lib.hid hnx
        have hsz := hnx.size
        clear ho6 ho7 hap hnx
        by_cases hjn : j < n - 1
        · obtain ⟨b', off', e', hb', hc'⟩ := HT.out.at_ (by omega)
          cases e'
          have hjr : j < r.length := by rw [HRL.out]; exact hjn
          have hcj : wr.cell? ⟨b, off + 1 + j, none⟩ = some (I r[j]) := (HNX.out.cell (by exact hb)).trans (hc' j hjn)
          have hc0' : wr.cell? ⟨b, off, none⟩ = some (I x) := (HNX.out.cell (by exact hb)).trans hc0
          have hts := take_snoc hjr
          have HLO := Lib.hid (show lo x (r.take (j + 1)) = if r[j] < x then lo x (r.take j) ++ [r[j]] else lo x (r.take j) by rw [hts]; exact lo_snoc x r[j] (r.take j))
          have HHI := Lib.hid (show hi x (r.take (j + 1)) = if r[j] < x then hi x (r.take j) else hi x (r.take j) ++ [r[j]] by rw [hts]; exact hi_snoc x r[j] (r.take j))
          have hl6 : (lo x (r.take j)).length ≤ 200 := by have := lo_le x (r.take j); rw [List.length_take] at this; omega
          have hl7 : (hi x (r.take j)).length ≤ 200 := by have := hi_le x (r.take j); rw [List.length_take] at this; omega
          clear hc' hts
          generalize r[j] = y at hcj HLO HHI
          by_cases hyx : y < x
          · rw [if_pos hyx] at HLO HHI
            go_wp2_with (first
              | (at_builtin
                 refine wpList_app1 rfl (.tmp 22) (.tmp 24) 23 rfl 3 Try.underlying23 int_info w.heap.size u3 (lo x (r.take j)) [y] (some ⟨wr.heap.size, 0, none⟩) 1 1 rfl rfl (own_below HO6.out ((Below.refl _ _).alloc (Nat.le_refl _) _)) (srcI_one wr y) (by omega) (by simp; omega) ?_
                 intro v2 w2 hown2 hgrow2 hat2)
              | fail)
            have hbs := app_beside HO7.out HAP.out _ hgrow2 hat2
            have HB2 := Lib.hid ((HNX.out.alloc hsz _).grown hgrow2 (by simp; omega) (own_ge1 HO6.out))
            have HOW := Lib.hid hown2
            have HBS := Lib.hid hbs
            clear hown2 hgrow2 hat2 hbs
            go_wp2
            go_roundg (n - 1 - (j + 1))
            case measure => omega
            case rel => exact ⟨j + 1, by omega, Nat.le_refl _, by go_num, by rw [HLO.out]; exact HOW.out, by rw [HHI.out]; exact HBS.out.1, HBS.out.2, HB2.out⟩
          · rw [if_neg hyx] at HLO HHI
            go_wp2_with (first
              | (at_builtin
                 refine wpList_app1 rfl (.tmp 26) (.tmp 28) 23 rfl 3 Try.underlying23 int_info w.heap.size u4 (hi x (r.take j)) [y] (some ⟨wr.heap.size, 0, none⟩) 1 1 rfl rfl (own_below HO7.out ((Below.refl _ _).alloc (Nat.le_refl _) _)) (srcI_one wr y) (by omega) (by simp; omega) ?_
                 intro v2 w2 hown2 hgrow2 hat2)
              | fail)
            have hbs := app_beside HO6.out HAP.out.symm _ hgrow2 hat2
            have HB2 := Lib.hid ((HNX.out.alloc hsz _).grown hgrow2 (by simp; omega) (own_ge1 HO7.out))
            have HOW := Lib.hid hown2
            have HBS := Lib.hid hbs
            clear hown2 hgrow2 hat2 hbs
            go_wp2
            go_roundg (n - 1 - (j + 1))
            case measure => omega
            case rel => exact ⟨j + 1, by omega, Nat.le_refl _, by go_num, by rw [HLO.out]; exact HBS.out.1, by rw [HHI.out]; exact HOW.out, HBS.out.2.symm, HB2.out⟩
        · have ht : r.take j = r := List.take_of_length_le (by rw [HRL.out]; omega)
          rw [ht] at HO6 HO7
          obtain ⟨A6, c6, e6, h6, _⟩ := OwnI.is_ HO6.out
          obtain ⟨A7, c7, e7, h7, _⟩ := OwnI.is_ HO7.out
          subst e6 e7
          have H7 := Lib.hid h7
          have HI6 := Lib.hid (IH.out (lo x r) hll2 A6 _ c6 wr h6 hll)
          have IH7 := Lib.hid (IH.out (hi x r) hhl2)
          clear ht h6 h7 HO6 HO7 HAP IH
          obtain ⟨p, hp⟩ : ∃ p, hel (lo x r) = p := ⟨_, rfl⟩
          obtain ⟨q, hq⟩ : ∃ q, hel (hi x r) = q := ⟨_, rfl⟩
          obtain ⟨np, hnp⟩ : ∃ np, (lo x r).length = np := ⟨_, rfl⟩
          obtain ⟨nq, hnq⟩ : ∃ nq, (hi x r).length = nq := ⟨_, rfl⟩
          rw [hp] at HI6 b1
          rw [hq] at IH7 b2
          rw [hnp] at HI6 b1 hll ⊢
          rw [hnq] at H7 b2 hhl ⊢
          have HP := Lib.hid hp
          have HQ := Lib.hid hq
          have HNP := Lib.hid hnp
          have HNQ := Lib.hid hnq
          clear hp hq hnp hnq hll2 hhl2
          have hp1 := b1.1
          have hp2 := b1.2
          have hq1 := b2.1
          have hq2 := b2.2
          clear b1 b2
          go_wp2_with fail
          refine HI6.out.mono ?_
          rintro e w2 ⟨rfl, hb2⟩
          have HI7 := Lib.hid (IH7.out A7 _ c7 w2 (H7.out.below hb2) hhl)
          have HB2 := Lib.hid hb2
          clear hb2 HI6 IH7
          go_wp2_with fail
          refine HI7.out.mono ?_
          rintro e w3 ⟨rfl, hb3⟩
          have HB3 := Lib.hid hb3
          clear hb3 HI7
          go_wp2
          go_ret
          refine ⟨by rw [HP.out, HQ.out, HNP.out, HNQ.out]; rfl, ?_⟩
          have z1 := HB2.out.size
          exact (HNX.out.trans (HB2.out.mono hsz)).trans (HB3.out.mono (by omega))

end Go.Proofs.Ytanmakgnjehcfaa
