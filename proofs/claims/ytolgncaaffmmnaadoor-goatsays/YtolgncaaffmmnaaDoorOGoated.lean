/-
  hedgref.Goated: op by op, a tree made anew.
-/
import Derived.Test.YtolgncaaffmmnaaDoorOBuilt
import Derived.Test.YtolgncaaffmmnaaDoorORowAll
import Derived.Test.YtolgncaaffmmnaaDoorORun
namespace Go.Proofs.YtolgncaaffmmnaaDoor
open Go.RowKit

def RetGo (s : GS) (w : World) (e : Ending) (w' : World) : Prop := ∃ q, e = .returned (.tuple #[.pointer q, I (s.built : Int)]) ∧ RT w' q s.t ∧ Below w.heap.size w w'
theorem goP_ba (s : GS) (x : Int) (M D d : Nat) (hM : max s.most (s.t.ins x).size = M) (hD : dpst M = D) (hd : (s.t.ins x).dpx x = d) :
    goP s x = if D < d then ⟨baT (s.t.ins x) ((s.t.ins x).reb x), M, s.built + baN ((s.t.ins x).reb x)⟩ else ⟨s.t.ins x, M, s.built⟩ := by
  unfold goP
  rw [hM, hD, hd]
  split
  · cases (s.t.ins x).reb x <;> rfl
  · rfl

set_option maxRecDepth 100000 in
set_option maxHeartbeats 8000000 in
theorem Goated_any (A A' : Option Addr) (n c c' : Nat) (ops : List OP) (w : World) (h : OS w A n c ops) (h' : AS w A' n c' (runR ops).2) (hn : n ≤ 300) :
    Calls Tryd.prog 18 #[.slice A n c, .slice A' n c'] w (RetGo (goT ops) w) := by
  have H1 := Lib.hid h
  have HA := Lib.hid h'
  have HL := Lib.hid h.len
  clear h h'
  go_enter Tryd.func18, Tryd.ntmps18
  go_wp2
  go_loopg [6, 7, 8, 18] n (fun m p mo bu i wr => ∃ (k : Nat) (q : Option Addr), k ≤ n ∧ n - k ≤ m ∧ i = .int .i64 k ∧ p = .pointer q ∧ mo = .int .i64 ((goT (ops.take k)).most : Int) ∧ bu = .int .i64 ((goT (ops.take k)).built : Int) ∧ RT wr q (goT (ops.take k)).t ∧ Below w.heap.size w wr)
  case atStart => exact ⟨0, none, Nat.zero_le _, by omega, rfl, rfl, rfl, rfl, rfl, Below.refl _ _⟩
  case round =>
    obtain ⟨k, q, hk, hkm, rfl, rfl, rfl, rfl, hR, hnx⟩ := hrel
    have HNX := Lib.hid hnx
    have HR := Lib.hid hR
    have hsz := hnx.size
    clear hnx hR
    by_cases hlt : k < n
    · obtain ⟨b, off, rfl, hb, hc⟩ := H1.out.at_ (by omega)
      obtain ⟨ba, offa, rfl, hba, hca⟩ := HA.out.at_ (by omega)
      have hkl : k < ops.length := by rw [HL.out]; exact hlt
      have hc0 : wr.cell? ⟨b, off + k * 3, none⟩ = some (I ops[k].1) := (HNX.out.cell (by exact hb)).trans (hc k hlt).1
      have hc1 : wr.cell? ⟨b, off + k * 3 + 1, none⟩ = some (I ops[k].2.1) := (HNX.out.cell (by exact hb)).trans (hc k hlt).2.1
      have hc2 : wr.cell? ⟨b, off + k * 3 + 2, none⟩ = some (I ops[k].2.2) := (HNX.out.cell (by exact hb)).trans (hc k hlt).2.2
      have hans := runR_ans ops k hkl
      have hcak := hca k hlt
      rw [hans] at hcak
      have hst := (goL_succ ops k hkl).1
      have hgb := go_bounds (ops.take k) (by rw [List.length_take]; omega)
      have hji := (go_inv (ops.take k)).same
      have hroom := fun (key : Int) => same_room hji key
      have hways := hji.ways ops[k].1 ops[k].2.1 ops[k].2.2
      generalize hs : goT (ops.take k) = s at *
      have hroom2 : (doA (runR (ops.take k)).1 ops[k].1 ops[k].2.1).e = 0 → ops[k].1 = 1 → (doA (runR (ops.take k)).1 ops[k].1 ops[k].2.1).b = false → s.t.size + 1 ≤ 200 := fun e1 e2 e3 => by
        rw [e2] at e1 e3
        exact (hroom _ ops[k].2.2 e1 e3).2
      generalize doA (runR (ops.take k)).1 ops[k].1 ops[k].2.1 = a at hcak hways hst hroom2
      generalize ops[k] = o at hc0 hc1 hc2 hways hst hroom2
      obtain ⟨kind, key, val⟩ := o
      simp only at hc0 hc1 hc2 hways hroom2
      have ha0 : wr.cell? ⟨ba, offa + k * 4, none⟩ = some (I a.e) := (HNX.out.cell (by exact hba)).trans hcak.1
      have ha1 : wr.cell? ⟨ba, offa + k * 4 + 1, none⟩ = some (I a.k) := (HNX.out.cell (by exact hba)).trans hcak.2.1
      have ha2 : wr.cell? ⟨ba, offa + k * 4 + 2, none⟩ = some (I a.v) := (HNX.out.cell (by exact hba)).trans hcak.2.2.1
      have ha3 : wr.cell? ⟨ba, offa + k * 4 + 3, none⟩ = some (.bool a.b) := (HNX.out.cell (by exact hba)).trans hcak.2.2.2
      have HST := Lib.hid hst
      have HGB := Lib.hid hgb
      have hmo := hgb.most
      have hbu := hgb.built
      have hbw : b < wr.heap.size := by omega
      have hbaw : ba < wr.heap.size := by omega
      have hbl0 := ((Below.refl wr.heap.size wr).alloc (Nat.le_refl _) (opO kind key val)).alloc (by simp) (anO a)
      have HR2 := Lib.hid (HR.out.below hbl0)
      have HN2 := Lib.hid ((HNX.out.alloc hsz (opO kind key val)).alloc (by simp; omega) (anO a))
      clear hc hca hcak hans hst hgb hji hroom hs hbl0
      obtain ⟨ae, ak, av, ab⟩ := a
      simp only at ha0 ha1 ha2 ha3 hways hroom2
      rcases hways with ⟨_, e2⟩ | ⟨rfl, rfl, rfl, e4, _⟩ | ⟨rfl, rfl, rfl, e4, _⟩ | ⟨rfl, rfl, rfl, e4, _⟩ | ⟨rfl, rfl, rfl, e4, _⟩ | ⟨e1, e2, _⟩
      · -- refused
        have hne := oerr_ne e2
        have HS := Lib.hid (show goT (ops.take (k + 1)) = s by rw [HST.out]; simp [goR, e2])
        clear e2 HST hroom2
        go_wp2
        go_roundg (gk - 1)
        case measure => omega
        case rel => exact ⟨k + 1, q, by omega, by omega, by go_num, rfl, by rw [HS.out], by rw [HS.out], by rw [HS.out]; exact HR2.out, HN2.out⟩
      · -- put: it was there
        have HS := Lib.hid (show goT (ops.take (k + 1)) = s by rw [HST.out]; simp [goR])
        clear e4 HST hroom2
        go_wp2
        go_roundg (gk - 1)
        case measure => omega
        case rel => exact ⟨k + 1, q, by omega, by omega, by go_num, rfl, by rw [HS.out], by rw [HS.out], by rw [HS.out]; exact HR2.out, HN2.out⟩
      · -- put: it comes
        have hsz2 := hroom2 rfl rfl rfl
        obtain ⟨N, hN⟩ : ∃ N, (s.t.ins key).size = N := ⟨_, rfl⟩
        have hN2 : N ≤ 200 := by rw [← hN, size_ins e4]; exact hsz2
        obtain ⟨M, hM⟩ : ∃ M, max s.most (s.t.ins key).size = M := ⟨_, rfl⟩
        have hM2 : M ≤ 200 := by rw [← hM, hN]; omega
        obtain ⟨D, hD⟩ : ∃ D, dpst M = D := ⟨_, rfl⟩
        obtain ⟨d, hd⟩ : ∃ d, (s.t.ins key).dpx key = d := ⟨_, rfl⟩
        have HS : Hid (goT (ops.take (k + 1)) = if D < d then ⟨baT (s.t.ins key) ((s.t.ins key).reb key), M, s.built + baN ((s.t.ins key).reb key)⟩ else ⟨s.t.ins key, M, s.built⟩) := by
          show _ = _
          rw [HST.out, show goR s (1, key, val) ⟨0, ak, av, false⟩ = goP s key by simp [goR]]
          exact goP_ba s key M D d hM hD hd
        have hu2 := up_ins (x := key) HGB.out.up
        have hx2 : key ∈ (s.t.ins key).ks := mem_ins.2 (.inl rfl)
        have hmx : (if (s.most : Int) < (N : Int) then (N : Int) else (s.most : Int)) = (M : Int) := by rw [hN] at hM; split <;> omega
        have hmx' : (if s.most < N then (N : Int) else (s.most : Int)) = (M : Int) := by rw [hN] at hM; split <;> omega
        have HLF := Lib.hid (Leaf_any key s.t q _ HR2.out)
        have HDI := Lib.hid (fun q' w' (h : RT w' q' (s.t.ins key)) => depthIn_any key (s.t.ins key) q' w' h hu2 hx2 (by omega))
        have HIO := Lib.hid (fun q' w' (h : RT w' q' (s.t.ins key)) => inOrder_any (s.t.ins key) q' N w' h hN (by omega))
        have HBA := Lib.hid (fun q' w' (h : RT w' q' (s.t.ins key)) => builtAnew_any key (s.t.ins key) q' w' h (by omega))
        have HDO := Lib.hid (fun w' => DeepestOf_any M w' hM2)
        rw [hd] at HDI
        rw [hD] at HDO
        have hdb : d ≤ 200 := by
          rw [← hd]
          have : ∀ t : Tr, t.dpx key ≤ t.size := fun t => by
            induction t with
            | nil => exact Nat.le_refl _
            | node a k b iha ihb =>
              simp only [Tr.dpx, Tr.size]
              split
              · omega
              · split <;> omega
          have := this (s.t.ins key)
          omega
        have hDb : D ≤ 30 := by rw [← hD]; exact dpS_le M 30
        have hnb : ∀ r, (s.t.ins key).reb key = r → baN r ≤ 200 := fun r hr => by
          cases r with
          | none => exact Nat.zero_le _
          | some p => have := (reb_bd hr).1; show p.2 ≤ 200; omega
        obtain ⟨r, hr⟩ : ∃ r, (s.t.ins key).reb key = r := ⟨_, rfl⟩
        have hnb2 := hnb r hr
        rw [hr] at HS HBA
        generalize s.t.ins key = t2 at *
        generalize s.most = mo at *
        generalize s.built = bu at *
        clear e4 HST hroom2 hN hM hD hd hu2 hx2 hnb hr hsz2 HGB
        go_wp2_with fail
        refine HLF.out.mono ?_
        rintro e w2 ⟨q2, rfl, hr2, hb2⟩
        have HR3 := Lib.hid hr2
        have HB3 := Lib.hid (below_next HN2.out hb2)
        have hk2 : w2.cell? ⟨wr.heap.size, 1, none⟩ = some (I key) := (hb2.cell (by simp; omega)).trans (by rw [World.cell?_alloc_old _ _ _ (by simp)]; simp)
        have hwl2 : wr.heap.size < w2.heap.size := by have := hb2.size; simp at this; omega
        clear hr2 hb2 HLF
        go_wp2_with fail
        refine (HIO.out q2 w2 HR3.out).mono ?_
        rintro e w3 ⟨A3, c3, rfl, _, hb3⟩
        have HR4 := Lib.hid (HR3.out.below hb3)
        have HB4 := Lib.hid (below_next HB3.out hb3)
        have hk3 : w3.cell? ⟨wr.heap.size, 1, none⟩ = some (I key) := (hb3.cell (by exact hwl2)).trans hk2
        have hwl3 : wr.heap.size < w3.heap.size := by have := hb3.size; omega
        clear hb3 HIO hk2
        go_wp2_with fail
        refine (HDI.out q2 w3 HR4.out).mono ?_
        rintro e w4 ⟨rfl, hw4⟩
        subst hw4
        go_wp2_with fail
        refine (HDO.out _).mono ?_
        rintro e w5 ⟨rfl, hw5⟩
        subst hw5
        by_cases hcmp : D < d
        · rw [if_pos hcmp] at HS
          have hcmp' : (D : Int) < (d : Int) := by omega
          clear hcmp
          go_wp2_with fail
          refine (HBA.out q2 _ HR4.out).mono ?_
          rintro e w6 ⟨q6, rfl, hr6, hb6⟩
          have HR6 := Lib.hid hr6
          have HB6 := Lib.hid (below_next HB4.out hb6)
          clear hr6 hb6 HBA
          generalize baN r = nn at *
          generalize baT t2 r = tt at *
          generalize baB r = bb at *
          go_wp2
          go_roundg (gk - 1)
          case measure => omega
          case rel => exact ⟨k + 1, q6, by omega, by omega, by go_num, rfl, by rw [HS.out], by rw [HS.out]; go_num, by rw [HS.out]; exact HR6.out, HB6.out⟩
        · rw [if_neg hcmp] at HS
          have hcmp' : ¬ (D : Int) < (d : Int) := by omega
          clear hcmp
          go_wp2
          go_roundg (gk - 1)
          case measure => omega
          case rel => exact ⟨k + 1, q2, by omega, by omega, by go_num, rfl, by rw [HS.out], by rw [HS.out], by rw [HS.out]; exact HR4.out, HB4.out⟩
      · -- taken away
        obtain ⟨N, hN⟩ : ∃ N, (s.t.del key).size = N := ⟨_, rfl⟩
        have hN2 : N ≤ 200 := by have := (del_all HGB.out.up e4).1; have := HGB.out.size; omega
        have HS : Hid (goT (ops.take (k + 1)) = if 3 * N < 2 * s.most then ⟨ev (s.t.del key).ks, N, s.built + N⟩ else ⟨s.t.del key, s.most, s.built⟩) := by
          show _ = _
          rw [HST.out, show goR s (3, key, val) ⟨0, ak, av, true⟩ = goC s key by simp [goR]]
          unfold goC
          rw [hN]
        have HUL := Lib.hid (Unleafed_any s.t key q _ HR2.out)
        have HIO := Lib.hid (fun q' w' (h : RT w' q' (s.t.del key)) => inOrder_any (s.t.del key) q' N w' h hN (by omega))
        generalize s.t.del key = t2 at *
        generalize s.most = mo at *
        generalize s.built = bu at *
        clear e4 HST hroom2 hN HGB
        go_wp2_with fail
        refine HUL.out.mono ?_
        rintro e w2 ⟨q2, rfl, hr2, hb2⟩
        have HR3 := Lib.hid hr2
        have HB3 := Lib.hid (below_next HN2.out hb2)
        clear hr2 hb2 HUL
        go_wp2_with fail
        refine (HIO.out q2 w2 HR3.out).mono ?_
        rintro e w3 ⟨A3, c3, rfl, _, hb3⟩
        have HR4 := Lib.hid (HR3.out.below hb3)
        have HB4 := Lib.hid (below_next HB3.out hb3)
        clear hb3
        by_cases hcmp : 3 * N < 2 * mo
        · rw [if_pos hcmp] at HS
          have hcmp' : 3 * (N : Int) < 2 * (mo : Int) := by omega
          clear hcmp
          go_wp2_with fail
          refine (HIO.out q2 w3 HR4.out).mono ?_
          rintro e w4 ⟨A4, c4, rfl, hi4, hb4⟩
          have HET := Lib.hid (EvenTree_any _ A4 N c4 _ w4 (Nat.le_refl _) hi4 (by omega))
          have HB5 := Lib.hid (below_next HB4.out hb4)
          clear hi4 hb4 HIO
          go_wp2_with fail
          refine HET.out.mono ?_
          rintro e w5 ⟨q5, rfl, hr5, hb5⟩
          have HR5 := Lib.hid hr5
          have HB6 := Lib.hid (below_next HB5.out hb5)
          clear hr5 hb5 HET
          go_wp2
          go_roundg (gk - 1)
          case measure => omega
          case rel => exact ⟨k + 1, q5, by omega, by omega, by go_num, rfl, by rw [HS.out], by rw [HS.out]; go_num, by rw [HS.out]; exact HR5.out, HB6.out⟩
        · rw [if_neg hcmp] at HS
          have hcmp' : ¬ 3 * (N : Int) < 2 * (mo : Int) := by omega
          clear hcmp
          go_wp2
          go_roundg (gk - 1)
          case measure => omega
          case rel => exact ⟨k + 1, q2, by omega, by omega, by go_num, rfl, by rw [HS.out], by rw [HS.out], by rw [HS.out]; exact HR4.out, HB4.out⟩
      · -- taken away: it was not there
        have HS := Lib.hid (show goT (ops.take (k + 1)) = s by rw [HST.out]; simp [goR])
        clear e4 HST hroom2
        go_wp2
        go_roundg (gk - 1)
        case measure => omega
        case rel => exact ⟨k + 1, q, by omega, by omega, by go_num, rfl, by rw [HS.out], by rw [HS.out], by rw [HS.out]; exact HR2.out, HN2.out⟩
      · by_cases hae : ae = 0
        · subst hae
          have HS := Lib.hid (show goT (ops.take (k + 1)) = s by rw [HST.out]; simp [goR, e1, e2])
          have h1 : (kind == 1) = false := by simpa using e1
          have h3 : (kind == 3) = false := by simpa using e2
          clear e1 e2 HST hroom2
          go_wp2
          go_roundg (gk - 1)
          case measure => omega
          case rel => exact ⟨k + 1, q, by omega, by omega, by go_num, rfl, by rw [HS.out], by rw [HS.out], by rw [HS.out]; exact HR2.out, HN2.out⟩
        · have hne := oerr_ne hae
          have HS := Lib.hid (show goT (ops.take (k + 1)) = s by rw [HST.out]; simp [goR, hae])
          clear e1 e2 HST hae hroom2
          go_wp2
          go_roundg (gk - 1)
          case measure => omega
          case rel => exact ⟨k + 1, q, by omega, by omega, by go_num, rfl, by rw [HS.out], by rw [HS.out], by rw [HS.out]; exact HR2.out, HN2.out⟩
    · have ht : ops.take k = ops := List.take_of_length_le (by rw [HL.out]; omega)
      rw [ht] at HR ⊢
      go_wp2
      go_ret2
      exact ⟨q, rfl, HR.out, HNX.out⟩

end Go.Proofs.YtolgncaaffmmnaaDoor
