/-
  hedgref.Grown: op by op, a tree made anew.
-/
import Derived.Test.YtanmakgnjehcfaaGRefU
import Derived.Test.YtanmakgnjehcfaaGRun
namespace Go.Proofs.Ytanmakgnjehcfaa
open Go.RowKit

set_option maxRecDepth 100000 in
set_option maxHeartbeats 4000000 in
theorem Grown_any (A A' : Option Addr) (n c c' : Nat) (ops : List OP) (w : World) (h : OS w A n c ops) (h' : AS w A' n c' (runR ops).2) (hn : n ≤ 300) :
    Calls Try.prog 18 #[.slice A n c, .slice A' n c'] w (RetT (grT ops) w) := by
  have H1 := Lib.hid h
  have HA := Lib.hid h'
  have HL := Lib.hid h.len
  clear h h'
  go_enter Try.func18, Try.ntmps18
  go_wp2
  go_loopg [5, 10] n (fun m p i wr => ∃ (k : Nat) (q : Option Addr), k ≤ n ∧ n - k ≤ m ∧ i = .int .i64 k ∧ p = .pointer q ∧ RT wr q (grT (ops.take k)) ∧ Below w.heap.size w wr)
  case atStart => exact ⟨0, none, Nat.zero_le _, by omega, rfl, rfl, rfl, Below.refl _ _⟩
  case round =>
    obtain ⟨k, q, hk, hkm, rfl, rfl, hR, hnx⟩ := hrel
    have HNX := Lib.hid hnx
    have HR := Lib.hid hR
    have hsz := hnx.size
    clear hnx hR
    by_cases hlt : k < n
    · obtain ⟨b, off, rfl, hb, hc⟩ := H1.out.at_ (by omega)
      obtain ⟨ba, offa, rfl, hba, hca⟩ := HA.out.at_ (by omega)
      have hkl : k < ops.length := by rw [HL.out]; exact hlt
      have hc0 : wr.cell? ⟨b, off + k * 3, none⟩ = some (I ops[k].1) := (HNX.out.cell (by exact hb)).trans (hc k hlt).1
      have hc1 : wr.cell? ⟨b, off + k * 3 + 1, none⟩ = some (I ops[k].2.1) := (HNX.out.cell (by exact hb)).trans (hc k hlt).2.1
      have hc2 : wr.cell? ⟨b, off + k * 3 + 2, none⟩ = some (I ops[k].2.2) := (HNX.out.cell (by exact hb)).trans (hc k hlt).2.2
      have hans := runR_ans ops k hkl
      have hcak := hca k hlt
      rw [hans] at hcak
      have hst := grT_succ ops k hkl
      generalize doA (runR (ops.take k)).1 ops[k].1 ops[k].2.1 = a at hcak hst
      generalize ops[k] = o at hc0 hc1 hc2 hst
      obtain ⟨kind, key, val⟩ := o
      simp only at hc0 hc1 hc2
      have ha0 : wr.cell? ⟨ba, offa + k * 4, none⟩ = some (I a.e) := (HNX.out.cell (by exact hba)).trans hcak.1
      have HST := Lib.hid hst
      have hbw : b < wr.heap.size := by omega
      have hbaw : ba < wr.heap.size := by omega
      have HR2 := Lib.hid (HR.out.alloc (opO kind key val))
      have HN2 := Lib.hid (HNX.out.alloc hsz (opO kind key val))
      clear hc hca hcak hans hst
      obtain ⟨ae, ak, av, ab⟩ := a
      simp only at ha0
      by_cases hae : ae = 0
      · subst hae
        by_cases h1 : kind = 1
        · subst h1
          have HS := Lib.hid (show grT (ops.take (k + 1)) = (grT (ops.take k)).ins key by rw [HST.out]; simp [grR])
          clear HST
          generalize grT (ops.take k) = t at *
          go_wp2_with fail
          refine (Leaf_any key t q _ HR2.out).mono ?_
          rintro e w2 ⟨q2, rfl, hr2, hb2⟩
          have HR3 := Lib.hid hr2
          have HB3 := Lib.hid (below_next HN2.out hb2)
          clear hr2 hb2
          go_wp2
          go_roundg (gk - 1)
          case measure => omega
          case rel => exact ⟨k + 1, q2, by omega, by omega, by go_num, rfl, by rw [HS.out]; exact HR3.out, HB3.out⟩
        · have h1' : (kind == 1) = false := by simpa using h1
          by_cases h3 : kind = 3
          · subst h3
            have HS := Lib.hid (show grT (ops.take (k + 1)) = (grT (ops.take k)).del key by rw [HST.out]; simp [grR])
            clear HST h1
            generalize grT (ops.take k) = t at *
            go_wp2_with fail
            refine (Unleafed_any t key q _ HR2.out).mono ?_
            rintro e w2 ⟨q2, rfl, hr2, hb2⟩
            have HR3 := Lib.hid hr2
            have HB3 := Lib.hid (below_next HN2.out hb2)
            clear hr2 hb2
            go_wp2
            go_roundg (gk - 1)
            case measure => omega
            case rel => exact ⟨k + 1, q2, by omega, by omega, by go_num, rfl, by rw [HS.out]; exact HR3.out, HB3.out⟩
          · have h3' : (kind == 3) = false := by simpa using h3
            have HS := Lib.hid (show grT (ops.take (k + 1)) = grT (ops.take k) by rw [HST.out]; simp [grR, h1, h3])
            clear HST h1 h3
            generalize grT (ops.take k) = t at *
            go_wp2
            go_roundg (gk - 1)
            case measure => omega
            case rel => exact ⟨k + 1, q, by omega, by omega, by go_num, rfl, by rw [HS.out]; exact HR2.out, HN2.out⟩
      · have hne := gerr_ne hae
        have HS := Lib.hid (show grT (ops.take (k + 1)) = grT (ops.take k) by rw [HST.out]; simp [grR, hae])
        clear HST hae
        generalize grT (ops.take k) = t at *
        go_wp2
        go_roundg (gk - 1)
        case measure => omega
        case rel => exact ⟨k + 1, q, by omega, by omega, by go_num, rfl, by rw [HS.out]; exact HR2.out, HN2.out⟩
    · have ht : ops.take k = ops := List.take_of_length_le (by rw [HL.out]; omega)
      rw [ht] at HR
      generalize grT ops = t at *
      go_wp2
      go_ret
      exact ⟨q, rfl, HR.out, HNX.out⟩

end Go.Proofs.Ytanmakgnjehcfaa
