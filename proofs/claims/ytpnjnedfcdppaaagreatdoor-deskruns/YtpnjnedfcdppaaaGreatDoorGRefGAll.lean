/-
  Joined texts: YtpnjnedfcdppaaaGreatDoorGRun, YtpnjnedfcdppaaaGreatDoorGRefG.
-/
import Derived.Test.YtpnjnedfcdppaaaGreatDoorGOfAll
import Derived.Test.YtpnjnedfcdppaaaGreatDoorRanksAll
import Derived.Test.YtpnjnedfcdppaaaGreatDoorGRefUAll
/-
  grow.Run: op by op, the tree beside the answers of the plain map.
-/
namespace Go.Proofs.YtpnjnedfcdppaaaGreatDoor
open Go.RowKit

def RetGR (L : PL) (a : List An) (er : Int) (w : World) (e : Ending) (w' : World) : Prop :=
  ∃ A n c A' n' c', e = .returned (.tuple #[.slice A n c, .slice A' n' c', I er]) ∧ PS w' A n c L ∧ AS w' A' n' c' a ∧ Below w.heap.size w w'

abbrev W2 (w : World) (kind key val : Int) (a : An) : World := (w.alloc (opO kind key val)).alloc (anO a)

set_option maxRecDepth 100000 in
set_option maxHeartbeats 4000000 in
theorem GRun_any (A : Option Addr) (n c : Nat) (ops : List OP) (w : World) (h : OS w A n c ops) (hn : n ≤ 300) :
    Calls Tryz.prog 21 #[.slice A n c] w (RetGR ((grT ops).sp 0) (runR ops).2 0 w) := by
  have HR := Lib.hid (Run_any A n c ops w h hn)
  have H := Lib.hid h
  have HL := Lib.hid h.len
  clear h
  go_enter Tryz.func21, Tryz.ntmps21
  go_wp2_with fail
  refine HR.out.mono ?_
  rintro e w1 ⟨A1, n1, c1, A2, n2, c2, rfl, _, has, hb1⟩
  have H1 := Lib.hid (H.out.below hb1)
  have HA := Lib.hid has
  have HB1 := Lib.hid hb1
  have hn2 : n2 = n := by have := has.len; rw [runR_len, HL.out] at this; exact this.symm
  subst hn2
  clear has hb1 HR
  go_wp2
  go_loopg [23] n2 (fun m i wr => ∃ k : Nat, k ≤ n2 ∧ n2 - k ≤ m ∧ i = .int .i64 k ∧ Below w1.heap.size w1 wr ∧ ∃ t : PT, Rep w1.heap.size wr w1.heap.size .top t ∧ t.tr = grT (ops.take k))
  case atStart =>
    refine ⟨0, Nat.zero_le _, by omega, rfl, (Below.refl _ _).alloc (Nat.le_refl _) _, .nil, ⟨?_, trivial, ?_, ?_⟩, rfl⟩
    · exact heap_alloc_new w1 _
    · simp [PT.bs, PC.bs]
    · intro x hx
      simp [PT.bs, PC.bs] at hx
      omega
  case round =>
    obtain ⟨k, hk, hkm, rfl, hnx, t, hR, ht⟩ := hrel
    have HNX := Lib.hid hnx
    have HR := Lib.hid hR
    have HT := Lib.hid ht
    have hsz := hnx.size
    clear hnx hR ht
    by_cases hlt : k < n2
    · obtain ⟨b, off, rfl, hb, hc⟩ := H1.out.at_ (by omega)
      obtain ⟨ba, offa, rfl, hba, hca⟩ := HA.out.at_ (by omega)
      have hkl : k < ops.length := by rw [HL.out]; exact hlt
      have hc0 : wr.cell? ⟨b, off + k * 3, none⟩ = some (I ops[k].1) := (HNX.out.cell (by exact hb)).trans (hc k hlt).1
      have hc1 : wr.cell? ⟨b, off + k * 3 + 1, none⟩ = some (I ops[k].2.1) := (HNX.out.cell (by exact hb)).trans (hc k hlt).2.1
      have hc2 : wr.cell? ⟨b, off + k * 3 + 2, none⟩ = some (I ops[k].2.2) := (HNX.out.cell (by exact hb)).trans (hc k hlt).2.2
      have hans := runR_ans ops k hkl
      have hcak := hca k hlt
      rw [hans] at hcak
      have hSame := grT_same (ops.take k)
      rw [← HT.out] at hSame
      have hw := hSame.ways ops[k].1 ops[k].2.1 ops[k].2.2
      have hst := grT_succ ops k hkl
      rw [← HT.out] at hst
      have hup := hSame.up
      generalize doA (runR (ops.take k)).1 ops[k].1 ops[k].2.1 = a at hcak hw hst
      generalize ops[k] = o at hc0 hc1 hc2 hw hst
      obtain ⟨kind, key, val⟩ := o
      simp only at hc0 hc1 hc2 hw
      have ha0 : wr.cell? ⟨ba, offa + k * 4, none⟩ = some (I a.e) := (HNX.out.cell (by exact hba)).trans hcak.1
      have ha1 : wr.cell? ⟨ba, offa + k * 4 + 1, none⟩ = some (I a.k) := (HNX.out.cell (by exact hba)).trans hcak.2.1
      have ha2 : wr.cell? ⟨ba, offa + k * 4 + 2, none⟩ = some (I a.v) := (HNX.out.cell (by exact hba)).trans hcak.2.2.1
      have ha3 : wr.cell? ⟨ba, offa + k * 4 + 3, none⟩ = some (.bool a.b) := (HNX.out.cell (by exact hba)).trans hcak.2.2.2
      have HST := Lib.hid hst
      have HUP := Lib.hid hup
      have hbw : b < wr.heap.size := by omega
      have hbaw : ba < wr.heap.size := by omega
      have HR2 := Lib.hid ((HR.out.alloc (opO kind key val)).alloc (anO a))
      have HN2 := Lib.hid ((HNX.out.alloc hsz (opO kind key val)).alloc (by simp; omega) (anO a))
      clear hc hca hcak hans hSame hst hup
      obtain ⟨ae, ak, av, ab⟩ := a
      simp only at ha0 ha1 ha2 ha3 hw
      rcases hw with ⟨_, e2⟩ | ⟨rfl, rfl, rfl, e4, _⟩ | ⟨rfl, rfl, rfl, e4, _⟩ | ⟨rfl, rfl, rfl, e4, _⟩ | ⟨rfl, rfl, rfl, e4, _⟩ | ⟨e1, e2, _⟩
      · -- refused
        have hne := gerr_ne e2
        have HS := Lib.hid (show grT (ops.take (k + 1)) = t.tr by rw [HST.out]; simp [grR, e2])
        clear e2 HST
        go_wp2
        go_roundg (gk - 1)
        case measure => omega
        case rel => exact ⟨k + 1, by omega, by omega, by go_num, HN2.out, t, HR2.out, HS.out.symm⟩
      · -- put: it was there
        have HS := Lib.hid (show grT (ops.take (k + 1)) = t.tr by rw [HST.out]; simp [grR, ins_has HUP.out e4])
        clear e4 HST
        go_wp2
        go_roundg (gk - 1)
        case measure => omega
        case rel => exact ⟨k + 1, by omega, by omega, by go_num, HN2.out, t, HR2.out, HS.out.symm⟩
      · -- put: it comes
        have HX := Lib.hid e4
        have HS := Lib.hid (show grT (ops.take (k + 1)) = t.tr.ins key by rw [HST.out]; simp [grR])
        clear e4 HST
        go_wp2
        obtain ⟨V, hV⟩ : ∃ V, ((wr.alloc (opO 1 key val)).alloc (anO ⟨0, ak, av, false⟩)) = V := ⟨_, rfl⟩
        have hkV : V.cell? ⟨wr.heap.size, 1, none⟩ = some (I key) := by
          rw [← hV, World.cell?_alloc_old _ _ _ (by simp)]
          simp
        have hgV : wr.heap.size < V.heap.size := by rw [← hV]; simp; omega
        rw [hV] at HR2 HN2 ⊢
        have hBV : w1.heap.size ≤ V.heap.size := by omega
        have HRd : Hid (Rep w1.heap.size V.drew w1.heap.size .top t) := HR2.out.keep fun _ _ => rfl
        have HNd : Hid (Below w1.heap.size w1 V.drew) := HN2.out.drew
        clear hV HR2 HN2 hc0 hc1 hc2 ha0 ha1 ha2 ha3
        go_region_with (first
          | (go_at_call 60
             refine (placeOf_any _ _ t key _ (by first | exact HRd.out | exact HRd.out.alloc _)).mono ?_
             rintro e w2 ⟨c1, s, b1, o1, rfl, ea, rfl, hR2, _, hf, hm⟩
             have hcl : (V.alloc (.cells #[I key, .pointer none, .pointer none] 111)).cell? ⟨b1, o1, none⟩ = some (.pointer s.q) := by
               rw [← ea]
               first | exact hR2.ctx.cell.1 | exact (hR2.alloc _).ctx.cell.1
             have hfz : (V.alloc (.cells #[I key, .pointer none, .pointer none] 111)).frozen? ⟨b1, o1, none⟩ = false := by
               rw [← ea]
               first | exact hR2.ctx.cell.2 | exact (hR2.alloc _).ctx.cell.2
             have hcl1 : (V.drew.alloc (.cells #[I key, .pointer none, .pointer none] 111)).cell? ⟨b1, o1, none⟩ = some (.pointer s.q) := hcl
             have hfz1 : (V.drew.alloc (.cells #[I key, .pointer none, .pointer none] 111)).frozen? ⟨b1, o1, none⟩ = false := hfz
             have hbl : w1.heap.size ≤ b1 := by have := hR2.blk; rw [ea] at this; exact this
             have HNW : Hid (∃ t' : PT, Rep w1.heap.size ((V.drew.alloc (.cells #[I key, .pointer none, .pointer none] 111)).setCell ⟨b1, o1, none⟩ (.pointer (some ⟨V.heap.size, 0, none⟩))) w1.heap.size .top t' ∧ t'.tr = t.tr.ins key) := by
               show ∃ _, _
               rw [← ea]
               have hy : ∀ y ∈ c1.bs w1.heap.size, y < V.drew.heap.size := fun y hy => HRd.out.lt y (hm y (List.mem_append.2 (.inr hy)))
               first | exact Rep.newLeaf2 (w := V.drew) hR2 hy hf HX.out hBV | exact Rep.newLeaf2 (w := V.drew) (hR2.alloc _) hy hf HX.out hBV
             clear hR2 hf ea hm)
          | fail)
        all_goals go_wp2
        all_goals go_roundg (gk - 1)
        all_goals first
          | omega
          | (obtain ⟨t', hR', et'⟩ := HNW.out
             exact ⟨k + 1, by omega, by omega, by go_num, ((HNd.out.alloc hBV _).setCell hbl _), t', hR', by rw [et', HS.out]⟩)
      · -- taken away
        have HX := Lib.hid e4
        have HS := Lib.hid (show grT (ops.take (k + 1)) = t.tr.alter key Tr.cutTop by rw [HST.out, ← del_alter HUP.out]; simp [grR])
        clear e4 HST
        go_wp2_with fail
        refine (placeOf_any _ _ t key _ HR2.out).mono ?_
        rintro e w2 ⟨c1, s, b1, o1, rfl, ea, rfl, hR2, hs, hf, _⟩
        obtain ⟨sa, sb, hsub⟩ := sub_has HUP.out HX.out
        rw [hsub] at hs
        cases s with
        | nil => simp [PT.tr] at hs
        | node g l kk r =>
          simp only [PT.tr, Tr.node.injEq] at hs
          obtain ⟨_, rfl, _⟩ := hs
          have HRM := Lib.hid (remove_any _ _ b1 o1 c1 g kk l r _ hR2 ea)
          have HF := Lib.hid (hf Tr.cutTop)
          clear hR2 hf ea hsub
          go_wp2_with fail
          refine HRM.out.mono ?_
          rintro e w3 ⟨rfl, hb3, s3, hR3, es3⟩
          have HB3 := Lib.hid hb3
          have HR3 := Lib.hid hR3
          have HE3 := Lib.hid es3
          clear hb3 hR3 es3 HRM
          go_wp2
          go_roundg (gk - 1)
          case measure => omega
          case rel =>
            obtain ⟨t', hR', et'⟩ := HR3.out.up
            refine ⟨k + 1, by omega, by omega, by go_num, HN2.out.trans HB3.out, t', hR', ?_⟩
            rw [et', HE3.out, HS.out, ← HF.out]
            rfl
      · -- taken away: it was not there
        have HS := Lib.hid (show grT (ops.take (k + 1)) = t.tr by rw [HST.out]; simp [grR, del_none e4])
        clear e4 HST
        go_wp2
        go_roundg (gk - 1)
        case measure => omega
        case rel => exact ⟨k + 1, by omega, by omega, by go_num, HN2.out, t, HR2.out, HS.out.symm⟩
      · by_cases hae : ae = 0
        · subst hae
          have HS := Lib.hid (show grT (ops.take (k + 1)) = t.tr by rw [HST.out]; simp [grR, e1, e2])
          have h1 : (kind == 1) = false := by simpa using e1
          have h3 : (kind == 3) = false := by simpa using e2
          clear e1 e2 HST
          go_wp2
          go_roundg (gk - 1)
          case measure => omega
          case rel => exact ⟨k + 1, by omega, by omega, by go_num, HN2.out, t, HR2.out, HS.out.symm⟩
        · have hne := gerr_ne hae
          have HS := Lib.hid (show grT (ops.take (k + 1)) = t.tr by rw [HST.out]; simp [grR, hae])
          clear e1 e2 HST hae
          go_wp2
          go_roundg (gk - 1)
          case measure => omega
          case rel => exact ⟨k + 1, by omega, by omega, by go_num, HN2.out, t, HR2.out, HS.out.symm⟩
    · have HTL := Lib.hid (show t.tr = grT ops by rw [HT.out, List.take_of_length_le (by rw [HL.out]; omega)])
      have HSZ := Lib.hid (show t.tr.size ≤ 200 by rw [HTL.out]; exact grT_size ops)
      have htop : wr.cell? ⟨w1.heap.size, 0, none⟩ = some (.pointer t.q) := HR.out.ctx.cell.1
      go_wp2_with fail
      refine (spots_any t wr.heap.size (.slice none 0 0) [] 0 wr HR.out.lay (fun x hx => HR.out.lay.lt x hx) (World.ownsRow_nil _ _ _ _) (Nat.le_refl _) (by have := HSZ.out; simp; omega) (Int.le_refl _) (by have := HSZ.out; omega)).mono ?_
      rintro e w3 ⟨v3, rfl, ho3, hb3⟩
      obtain ⟨A3, c3, rfl, hps, _⟩ := OwnR.ps ho3
      have HPS := Lib.hid hps
      have HB3 := Lib.hid hb3
      clear ho3 hps hb3
      go_wp2
      go_ret3
      have HSL := Lib.hid (show (([] : PL) ++ t.tr.sp 0) = (grT ops).sp 0 by rw [HTL.out]; simp)
      have hz1 := HB1.out.size
      refine ⟨A3, _, c3, A2, _, c2, rfl, ?_, (HA.out.below HNX.out).below HB3.out, (HB1.out.trans (HNX.out.mono hz1)).trans (HB3.out.mono (by omega))⟩
      have := HPS.out
      rw [← HSL.out]
      exact this

end Go.Proofs.YtpnjnedfcdppaaaGreatDoor

/-
  hedgref.Grown: op by op, a tree made anew.
-/
namespace Go.Proofs.YtpnjnedfcdppaaaGreatDoor
open Go.RowKit

set_option maxRecDepth 100000 in
set_option maxHeartbeats 4000000 in
theorem Grown_any (A A' : Option Addr) (n c c' : Nat) (ops : List OP) (w : World) (h : OS w A n c ops) (h' : AS w A' n c' (runR ops).2) (hn : n ≤ 300) :
    Calls Tryz.prog 112 #[.slice A n c, .slice A' n c'] w (RetT (grT ops) w) := by
  have H1 := Lib.hid h
  have HA := Lib.hid h'
  have HL := Lib.hid h.len
  clear h h'
  go_enter Tryz.func112, Tryz.ntmps112
  go_wp2
  go_loopg [5, 10] n (fun m p i wr => ∃ (k : Nat) (q : Option Addr), k ≤ n ∧ n - k ≤ m ∧ i = .int .i64 k ∧ p = .pointer q ∧ RT wr q (grT (ops.take k)) ∧ Below w.heap.size w wr)
  case atStart => exact ⟨0, none, Nat.zero_le _, by omega, rfl, rfl, rfl, Below.refl _ _⟩
  case round =>
    obtain ⟨k, q, hk, hkm, rfl, rfl, hR, hnx⟩ := hrel
    have HNX := Lib.hid hnx
    have HR := Lib.hid hR
    have hsz := hnx.size
    clear hnx hR
    by_cases hlt : k < n
    · obtain ⟨b, off, rfl, hb, hc⟩ := H1.out.at_ (by omega)
      obtain ⟨ba, offa, rfl, hba, hca⟩ := HA.out.at_ (by omega)
      have hkl : k < ops.length := by rw [HL.out]; exact hlt
      have hc0 : wr.cell? ⟨b, off + k * 3, none⟩ = some (I ops[k].1) := (HNX.out.cell (by exact hb)).trans (hc k hlt).1
      have hc1 : wr.cell? ⟨b, off + k * 3 + 1, none⟩ = some (I ops[k].2.1) := (HNX.out.cell (by exact hb)).trans (hc k hlt).2.1
      have hc2 : wr.cell? ⟨b, off + k * 3 + 2, none⟩ = some (I ops[k].2.2) := (HNX.out.cell (by exact hb)).trans (hc k hlt).2.2
      have hans := runR_ans ops k hkl
      have hcak := hca k hlt
      rw [hans] at hcak
      have hst := grT_succ ops k hkl
      generalize doA (runR (ops.take k)).1 ops[k].1 ops[k].2.1 = a at hcak hst
      generalize ops[k] = o at hc0 hc1 hc2 hst
      obtain ⟨kind, key, val⟩ := o
      simp only at hc0 hc1 hc2
      have ha0 : wr.cell? ⟨ba, offa + k * 4, none⟩ = some (I a.e) := (HNX.out.cell (by exact hba)).trans hcak.1
      have HST := Lib.hid hst
      have hbw : b < wr.heap.size := by omega
      have hbaw : ba < wr.heap.size := by omega
      have HR2 := Lib.hid (HR.out.alloc (opO kind key val))
      have HN2 := Lib.hid (HNX.out.alloc hsz (opO kind key val))
      clear hc hca hcak hans hst
      obtain ⟨ae, ak, av, ab⟩ := a
      simp only at ha0
      by_cases hae : ae = 0
      · subst hae
        by_cases h1 : kind = 1
        · subst h1
          have HS := Lib.hid (show grT (ops.take (k + 1)) = (grT (ops.take k)).ins key by rw [HST.out]; simp [grR])
          clear HST
          generalize grT (ops.take k) = t at *
          go_wp2_with fail
          refine (Leaf_any key t q _ HR2.out).mono ?_
          rintro e w2 ⟨q2, rfl, hr2, hb2⟩
          have HR3 := Lib.hid hr2
          have HB3 := Lib.hid (below_next HN2.out hb2)
          clear hr2 hb2
          go_wp2
          go_roundg (gk - 1)
          case measure => omega
          case rel => exact ⟨k + 1, q2, by omega, by omega, by go_num, rfl, by rw [HS.out]; exact HR3.out, HB3.out⟩
        · have h1' : (kind == 1) = false := by simpa using h1
          by_cases h3 : kind = 3
          · subst h3
            have HS := Lib.hid (show grT (ops.take (k + 1)) = (grT (ops.take k)).del key by rw [HST.out]; simp [grR])
            clear HST h1
            generalize grT (ops.take k) = t at *
            go_wp2_with fail
            refine (Unleafed_any t key q _ HR2.out).mono ?_
            rintro e w2 ⟨q2, rfl, hr2, hb2⟩
            have HR3 := Lib.hid hr2
            have HB3 := Lib.hid (below_next HN2.out hb2)
            clear hr2 hb2
            go_wp2
            go_roundg (gk - 1)
            case measure => omega
            case rel => exact ⟨k + 1, q2, by omega, by omega, by go_num, rfl, by rw [HS.out]; exact HR3.out, HB3.out⟩
          · have h3' : (kind == 3) = false := by simpa using h3
            have HS := Lib.hid (show grT (ops.take (k + 1)) = grT (ops.take k) by rw [HST.out]; simp [grR, h1, h3])
            clear HST h1 h3
            generalize grT (ops.take k) = t at *
            go_wp2
            go_roundg (gk - 1)
            case measure => omega
            case rel => exact ⟨k + 1, q, by omega, by omega, by go_num, rfl, by rw [HS.out]; exact HR2.out, HN2.out⟩
      · have hne := gerr_ne hae
        have HS := Lib.hid (show grT (ops.take (k + 1)) = grT (ops.take k) by rw [HST.out]; simp [grR, hae])
        clear HST hae
        generalize grT (ops.take k) = t at *
        go_wp2
        go_roundg (gk - 1)
        case measure => omega
        case rel => exact ⟨k + 1, q, by omega, by omega, by go_num, rfl, by rw [HS.out]; exact HR2.out, HN2.out⟩
    · have ht : ops.take k = ops := List.take_of_length_le (by rw [HL.out]; omega)
      rw [ht] at HR
      generalize grT ops = t at *
      go_wp2
      go_ret
      exact ⟨q, rfl, HR.out, HNX.out⟩

end Go.Proofs.YtpnjnedfcdppaaaGreatDoor
