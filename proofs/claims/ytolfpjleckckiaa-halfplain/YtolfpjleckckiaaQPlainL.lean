/-
  The walk of the law HalfPlain.
-/
import Derived.Test.YtolfpjleckckiaaQEndsLAll
import Derived.Test.YtolfpjleckckiaaQTie
import Derived.Test.YtolfpjleckckiaaGRefKAll
namespace Go.Proofs.Ytolfpjleckckiaa
open Go.RowKit Go.Maps

set_option maxRecDepth 100000 in
set_option maxHeartbeats 4000000 in
theorem qplain_any (A : Option Addr) (n c : Nat) (ops : List OP) (w : World) (h : OS w A n c ops) (hm : n ≤ 9223372036854775807) :
    Calls Try.prog 4 #[.slice A n c] w (YesQ w) := by
  have H := Lib.hid h
  have HL := Lib.hid h.len
  clear h
  obtain ⟨i0, hi, hz0, hz1, hz2⟩ := info_parts op_info
  have HI := Lib.hid hi
  have HZ0 := Lib.hid hz0
  have HZ1 := Lib.hid hz1
  have HZ2 := Lib.hid hz2
  clear hi hz0 hz1 hz2
  go_enter Try.func4, Try.ntmps4
  go_wp2
  go_loopw [3, 14] (fun v i wr => ∃ k : Nat, k ≤ n ∧ i = .int .i64 k ∧ OwnO wr w.heap.size v (qOwn (ops.take k)) ∧ Below w.heap.size w wr) (fun _ i _ => n - (intOf i).toNat)
  case atStart => exact ⟨0, Nat.zero_le _, rfl, World.ownsRow_nil _ _ _ _, Below.refl _ _⟩
  case round =>
    obtain ⟨k, hk, rfl, hown, hnx⟩ := hrel
    have hzi := hnx.size
    have HNX := Lib.hid hnx
    by_cases hlt : k < n
    · obtain ⟨b, off, rfl, hb, hc⟩ := H.out.at_ (by omega)
      have hkl : k < ops.length := by rw [HL.out]; exact hlt
      have hc0 : wr.cell? ⟨b, off + k * 3, none⟩ = some (I ops[k].1) := (hnx.cell (by exact hb)).trans (hc k hlt).1
      have hc1 : wr.cell? ⟨b, off + k * 3 + 1, none⟩ = some (I ops[k].2.1) := (hnx.cell (by exact hb)).trans (hc k hlt).2.1
      have hc2 : wr.cell? ⟨b, off + k * 3 + 2, none⟩ = some (I ops[k].2.2) := (hnx.cell (by exact hb)).trans (hc k hlt).2.2
      have HS := Lib.hid (qOwn_succ ops k hkl)
      have hxl := (qOwn_ok (ops.take k)).1
      generalize ops[k] = o at *
      generalize qOwn (ops.take k) = xs at *
      obtain ⟨kd, ky, vl⟩ := o
      simp only at hc0 hc1 hc2
      obtain ⟨A3, c3, rfl, _⟩ := hown.os
      have HOWN := Lib.hid hown
      have HOW2 : Hid (OwnO (wr.alloc (.cells #[I kd, I ky, I vl] 39)) w.heap.size (.slice A3 xs.length c3) xs) := own_below hown ((Below.refl _ _).alloc (Nat.le_refl _) _)
      have HB2 : Hid (Below w.heap.size w (wr.alloc (.cells #[I kd, I ky, I vl] 39))) := hnx.alloc hzi _
      have hsame : ¬ (hok (kd, ky, vl) ∧ xs.length < 200) → OwnO (wr.alloc (.cells #[I kd, I ky, I vl] 39)) w.heap.size (.slice A3 xs.length c3) (qOwn (ops.take (k + 1))) := fun hn => by
        rw [HS.out, if_neg hn]
        exact HOW2.out
      obtain ⟨m, hm3⟩ : ∃ m, xs.length = m := ⟨_, rfl⟩
      have HM := Lib.hid hm3
      have hbw : b < wr.heap.size := by omega
      by_cases g1 : 1 ≤ kd
      · by_cases g2 : kd ≤ 5
        · by_cases g3 : 0 ≤ ky
          · by_cases g4 : ky ≤ 65535
            · by_cases g5 : xs.length < 200
              · have HNEW : Hid (qOwn (ops.take (k + 1)) = xs ++ [(kd, ky, 0)]) := by show _ = _; rw [HS.out, if_pos ⟨⟨g1, g2, g3, g4⟩, g5⟩]
                have HBB : Hid (Below wr.heap.size wr ((wr.alloc (.cells #[I kd, I ky, I vl] 39)).alloc (.cells #[I kd, I ky, I 0] 39))) := ((Below.refl _ _).alloc (Nat.le_refl _) _).alloc (by simp) _
                have HTN : Hid (∀ j u, [I kd, I ky, I 0][j]? = some u → ((wr.alloc (.cells #[I kd, I ky, I vl] 39)).alloc (.cells #[I kd, I ky, I 0] 39)).cell? ((⟨wr.heap.size + 1, 0, none⟩ : Addr).add j) = some u) := fun j u hu => by
                  have := three_new (wr.alloc (.cells #[I kd, I ky, I vl] 39)) kd ky 0 39 j u hu
                  rw [show (wr.alloc (.cells #[I kd, I ky, I vl] 39)).heap.size = wr.heap.size + 1 by simp] at this
                  exact this
                rw [hm3] at g5 HOWN ⊢
                clear hc hown hnx hsame HOW2 HB2
                go_wp2_with (first
                  | (at_builtin
                     refine wpList_append_own_at _ rfl (.tmp 41) (.tmp 47) 22 rfl w.heap.size 39 i0 _ 3 24 Try.underlying22 HI.out HZ0.out HZ1.out HZ2.out rfl (by omega) (.slice A3 m c3) m (flatO xs) rfl (own_below (by have := HOWN.out; unfold OwnO at this; rw [HM.out] at this; exact this) HBB.out) ⟨wr.heap.size + 1, 0, none⟩ 1 1 [I kd, I ky, I 0] rfl rfl HTN.out (three_one kd ky 0) (by unfold maxLen; omega) (by omega) (by simp; omega) ?_
                     intro v2 w9 hown2 hgrow2 _ hat2)
                  | fail)
                have HB3 : Hid (Below w.heap.size w w9) := Below.grown (HNX.out.trans (HBB.out.mono hzi)) hgrow2 (by simp; omega) (own_ge1 HOWN.out)
                have HO3 : Hid (OwnO w9 w.heap.size v2 (qOwn (ops.take (k + 1)))) := by
                  show OwnO _ _ _ _
                  rw [HNEW.out]
                  unfold OwnO
                  rw [flatO_append, List.length_append, List.length_singleton, HM.out]
                  exact hown2
                clear hown2 hgrow2 hat2
                go_roundw
                case rel => exact ⟨k + 1, by omega, by go_num, HO3.out, HB3.out⟩
                case measure => simp [intOf]; omega
              · have HSM := Lib.hid (hsame (fun e => g5 e.2))
                rw [hm3] at g5 HSM ⊢
                clear hc hown hnx hsame HOW2
                go_wp2
                go_roundw
                case rel => exact ⟨k + 1, by omega, by go_num, HSM.out, HB2.out⟩
                case measure => simp [intOf]; omega
            · have HSM := Lib.hid (hsame (fun e => g4 e.1.2.2.2))
              clear hc hown hnx hsame HOW2
              go_wp2
              go_roundw
              case rel => exact ⟨k + 1, by omega, by go_num, HSM.out, HB2.out⟩
              case measure => simp [intOf]; omega
          · have HSM := Lib.hid (hsame (fun e => g3 e.1.2.2.1))
            clear hc hown hnx hsame HOW2
            go_wp2
            go_roundw
            case rel => exact ⟨k + 1, by omega, by go_num, HSM.out, HB2.out⟩
            case measure => simp [intOf]; omega
        · have HSM := Lib.hid (hsame (fun e => g2 e.1.2.1))
          clear hc hown hnx hsame HOW2
          go_wp2
          go_roundw
          case rel => exact ⟨k + 1, by omega, by go_num, HSM.out, HB2.out⟩
          case measure => simp [intOf]; omega
      · have HSM := Lib.hid (hsame (fun e => g1 e.1.1))
        clear hc hown hnx hsame HOW2
        go_wp2
        go_roundw
        case rel => exact ⟨k + 1, by omega, by go_num, HSM.out, HB2.out⟩
        case measure => simp [intOf]; omega
    · have htk : ops.take k = ops := List.take_of_length_le (by rw [HL.out]; omega)
      rw [htk] at hown
      obtain ⟨hx1, hx2⟩ := qOwn_ok ops
      obtain ⟨T1, T2⟩ := tie_all hx2 hx1
      have hrl := runR_len (qOwn ops)
      have hhl := hR_le (qOwn ops)
      generalize qOwn ops = xs at *
      obtain ⟨A3, c3, rfl, hos⟩ := hown.os
      obtain ⟨m, hm3⟩ : ∃ m, xs.length = m := ⟨_, rfl⟩
      rw [hm3] at hx1 hos hrl hhl ⊢
      have HOS := Lib.hid hos
      have HT1 := Lib.hid T1
      have HT2 := Lib.hid T2
      have hrl2 : (runR xs).1.length ≤ 200 := by rw [← kys_len, T1]; omega
      have HRL := Lib.hid hrl
      clear hown hnx hx2 htk hos T1 T2 hrl hm3
      go_wp2_with fail
      refine (Run_any A3 m c3 xs wr HOS.out (by omega)).mono ?_
      rw [HT2.out]
      rintro e w1 ⟨A1, n1, c1, A2, n2, c2, rfl, hps, has, hb1⟩
      have hn1 : n1 ≤ 200 := by rw [← hps.len]; exact hrl2
      have HHL : Hid ((hR xs).2.length = m) := by show _ = _; rw [← HT2.out]; exact HRL.out
      obtain rfl : n2 = m := by rw [← has.len]; exact HHL.out
      have HB1 := Lib.hid (qon HNX.out hb1)
      have HPS := Lib.hid hps
      have HAS := Lib.hid has
      have HOS1 := Lib.hid (HOS.out.below hb1)
      clear hps has hb1 HOS
      go_wp2_with fail
      refine (QRun_any A3 n2 c3 xs w1 HOS1.out (by omega)).mono ?_
      rintro e w2 ⟨A5, n5, c5, A6, n6, c6, rfl, his, has6, hb2⟩
      obtain rfl : n6 = n2 := by rw [← has6.len]; exact HHL.out
      have hn5 : n5 = n1 := by rw [← his.len, ← HT1.out, kys_len]; exact HPS.out.len
      subst hn5
      have HB2 := Lib.hid (qon HB1.out hb2)
      have HPS2 := Lib.hid (HPS.out.below hb2)
      have HAS2 := Lib.hid (HAS.out.below hb2)
      have HIS2 := Lib.hid his
      have HAS6 := Lib.hid has6
      clear his has6 hb2 HPS HAS HOS1
      go_wp2_with fail
      refine (halfLives_any w2).mono ?_
      rintro e w3 ⟨rfl, hb3⟩
      have HB3 := Lib.hid (qon HB2.out hb3)
      have HPS3 := Lib.hid (HPS2.out.below hb3)
      have HAS3 := Lib.hid (HAS2.out.below hb3)
      have HIS3 := Lib.hid (HIS2.out.below hb3)
      have HAS7 := Lib.hid (HAS6.out.below hb3)
      clear hb3 HPS2 HAS2 HIS2 HAS6
      go_wp2_with fail
      refine (ok_any _ 2 2 [0, 0] _ (is_new w3 25 [0, 0]) (by omega) (by simp)).mono ?_
      rintro e w4 ⟨rfl, rfl⟩
      go_wp2_with fail
      refine (eqAns_t A2 A6 n6 c2 c6 (hR xs).2 _ (HAS3.out.below ((Below.refl _ _).alloc (Nat.le_refl _) _)) (HAS7.out.below ((Below.refl _ _).alloc (Nat.le_refl _) _)) (by omega)).mono ?_
      rintro e w5 ⟨rfl, hb5⟩
      have hbx : Below w3.heap.size w3 w5 := qbox hb5
      have HB5 := Lib.hid (qon HB3.out hbx)
      have HPS5 := Lib.hid (HPS3.out.below hbx)
      have HIS5 := Lib.hid (HIS3.out.below hbx)
      clear hb5 hbx HPS3 HAS3 HIS3 HAS7
      go_wp2_with fail
      refine (MapKeys_any A1 n5 c1 (runR xs).1 w5 HPS5.out (by omega)).mono ?_
      rw [HT1.out]
      rintro e w6 ⟨A7, c7, rfl, hi7, hb6⟩
      have hl7 : (hR xs).1.length = n5 := by rw [← HT1.out, kys_len]; exact HPS5.out.len
      rw [hl7] at hi7 ⊢
      have HB6 := Lib.hid (qon HB5.out hb6)
      have HIS6 := Lib.hid (HIS5.out.below hb6)
      have HI7 := Lib.hid hi7
      clear hb6 hi7 hl7 HPS5 HIS5
      go_wp2_with fail
      refine (sameInts_t A5 A7 n5 c5 c7 (hR xs).1 w6 HIS6.out HI7.out (by omega)).mono ?_
      rintro e w7 ⟨rfl, hb7⟩
      have HB7 := Lib.hid (qon HB6.out hb7)
      clear hb7
      go_wp2
      go_ret
      exact ⟨rfl, HB7.out⟩

end Go.Proofs.Ytolfpjleckckiaa
