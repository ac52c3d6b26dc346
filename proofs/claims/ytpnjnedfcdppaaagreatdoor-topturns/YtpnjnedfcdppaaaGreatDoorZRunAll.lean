/-
  Joined texts: YtpnjnedfcdppaaaGreatDoorGRun, YtpnjnedfcdppaaaGreatDoorSlR, YtpnjnedfcdppaaaGreatDoorZConc, YtpnjnedfcdppaaaGreatDoorSEq, YtpnjnedfcdppaaaGreatDoorZZip, YtpnjnedfcdppaaaGreatDoorZRun.
-/
import Derived.Test.YtpnjnedfcdppaaaGreatDoorRunAAll
import Derived.Test.YtpnjnedfcdppaaaGreatDoorOPureAll
import Derived.Test.YtpnjnedfcdppaaaGreatDoorOwnAll
import Derived.Test.YtpnjnedfcdppaaaGreatDoorSpotBAll
import Derived.Lib.AppendZeros
import Derived.WalkSpells
import Derived.Test.YtpnjnedfcdppaaaGreatDoorIntsAll
import Derived.Test.YtpnjnedfcdppaaaGreatDoorKTowAll
import Derived.Test.YtpnjnedfcdppaaaGreatDoorDOpAll
/-
  grow.Run: op by op, the tree beside the answers of the plain map.
-/
namespace Go.Proofs.YtpnjnedfcdppaaaGreatDoor
open Go.RowKit

/-- spots, answers and an error -/
def RetGR (L : PL) (a : List An) (er : Int) (w : World) (e : Ending) (w' : World) : Prop :=
  ∃ A n c A' n' c', e = .returned (.tuple #[.slice A n c, .slice A' n' c', I er]) ∧ PS w' A n c L ∧ AS w' A' n' c' a ∧ Below w.heap.size w w'

set_option maxHeartbeats 1000000 in
theorem GRun_large (A : Option Addr) (n c : Nat) (w : World) (hn : 300 < n) (hm : n ≤ 9223372036854775807) :
    Calls Tryz.prog 21 #[.slice A n c] w (RetGR [] [] 2 w) := by
  have HR := Lib.hid (Run_large A n c w hn hm)
  go_enter Tryz.func21, Tryz.ntmps21
  go_wp2_with fail
  refine HR.out.mono ?_
  rintro e w1 ⟨A1, n1, c1, A2, n2, c2, rfl, _, _, hb⟩
  have HB := Lib.hid hb
  clear hb
  go_wp2
  go_ret3
  exact ⟨none, 0, 0, none, 0, 0, rfl, ⟨rfl, Rd.none_⟩, ⟨rfl, Rd.none_⟩, HB.out⟩

abbrev W2 (w : World) (kind key val : Int) (a : An) : World := (w.alloc (opO kind key val)).alloc (anO a)

set_option maxRecDepth 100000 in
set_option maxHeartbeats 4000000 in
theorem GRun_any (A : Option Addr) (n c : Nat) (ops : List OP) (w : World) (h : OS w A n c ops) (hn : n ≤ 300) :
    Calls Tryz.prog 21 #[.slice A n c] w (RetGR ((grT ops).sp 0) (runR ops).2 0 w) := by
  have HR := Lib.hid (Run_any A n c ops w h hn)
  have H := Lib.hid h
  have HL := Lib.hid h.len
  clear h
  go_enter Tryz.func21, Tryz.ntmps21
  go_wp2_with fail
  refine HR.out.mono ?_
  rintro e w1 ⟨A1, n1, c1, A2, n2, c2, rfl, _, has, hb1⟩
  have H1 := Lib.hid (H.out.below hb1)
  have HA := Lib.hid has
  have HB1 := Lib.hid hb1
  have hn2 : n2 = n := by have := has.len; rw [runR_len, HL.out] at this; exact this.symm
  subst hn2
  clear has hb1 HR
  go_wp2
  go_loopg [23] n2 (fun m i wr => ∃ k : Nat, k ≤ n2 ∧ n2 - k ≤ m ∧ i = .int .i64 k ∧ Below w1.heap.size w1 wr ∧ ∃ t : PT, Rep w1.heap.size wr w1.heap.size .top t ∧ t.tr = grT (ops.take k))
  case atStart =>
    refine ⟨0, Nat.zero_le _, by omega, rfl, (Below.refl _ _).alloc (Nat.le_refl _) _, .nil, ⟨?_, trivial, ?_, ?_⟩, rfl⟩
    · exact heap_alloc_new w1 _
    · simp [PT.bs, PC.bs]
    · intro x hx
      simp [PT.bs, PC.bs] at hx
      omega
  case round =>
    obtain ⟨k, hk, hkm, rfl, hnx, t, hR, ht⟩ := hrel
    have HNX := Lib.hid hnx
    have HR := Lib.hid hR
    have HT := Lib.hid ht
    have hsz := hnx.size
    clear hnx hR ht
    by_cases hlt : k < n2
    · obtain ⟨b, off, rfl, hb, hc⟩ := H1.out.at_ (by omega)
      obtain ⟨ba, offa, rfl, hba, hca⟩ := HA.out.at_ (by omega)
      have hkl : k < ops.length := by rw [HL.out]; exact hlt
      have hc0 : wr.cell? ⟨b, off + k * 3, none⟩ = some (I ops[k].1) := (HNX.out.cell (by exact hb)).trans (hc k hlt).1
      have hc1 : wr.cell? ⟨b, off + k * 3 + 1, none⟩ = some (I ops[k].2.1) := (HNX.out.cell (by exact hb)).trans (hc k hlt).2.1
      have hc2 : wr.cell? ⟨b, off + k * 3 + 2, none⟩ = some (I ops[k].2.2) := (HNX.out.cell (by exact hb)).trans (hc k hlt).2.2
      have hans := runR_ans ops k hkl
      have hcak := hca k hlt
      rw [hans] at hcak
      have hSame := grT_same (ops.take k)
      rw [← HT.out] at hSame
      have hw := hSame.ways ops[k].1 ops[k].2.1 ops[k].2.2
      have hst := grT_succ ops k hkl
      rw [← HT.out] at hst
      have hup := hSame.up
      generalize doA (runR (ops.take k)).1 ops[k].1 ops[k].2.1 = a at hcak hw hst
      generalize ops[k] = o at hc0 hc1 hc2 hw hst
      obtain ⟨kind, key, val⟩ := o
      simp only at hc0 hc1 hc2 hw
      have ha0 : wr.cell? ⟨ba, offa + k * 4, none⟩ = some (I a.e) := (HNX.out.cell (by exact hba)).trans hcak.1
      have ha1 : wr.cell? ⟨ba, offa + k * 4 + 1, none⟩ = some (I a.k) := (HNX.out.cell (by exact hba)).trans hcak.2.1
      have ha2 : wr.cell? ⟨ba, offa + k * 4 + 2, none⟩ = some (I a.v) := (HNX.out.cell (by exact hba)).trans hcak.2.2.1
      have ha3 : wr.cell? ⟨ba, offa + k * 4 + 3, none⟩ = some (.bool a.b) := (HNX.out.cell (by exact hba)).trans hcak.2.2.2
      have HST := Lib.hid hst
      have HUP := Lib.hid hup
      have hbw : b < wr.heap.size := by omega
      have hbaw : ba < wr.heap.size := by omega
      have HR2 := Lib.hid ((HR.out.alloc (opO kind key val)).alloc (anO a))
      have HN2 := Lib.hid ((HNX.out.alloc hsz (opO kind key val)).alloc (by simp; omega) (anO a))
      clear hc hca hcak hans hSame hst hup
      obtain ⟨ae, ak, av, ab⟩ := a
      simp only at ha0 ha1 ha2 ha3 hw
      rcases hw with ⟨_, e2⟩ | ⟨rfl, rfl, rfl, e4, _⟩ | ⟨rfl, rfl, rfl, e4, _⟩ | ⟨rfl, rfl, rfl, e4, _⟩ | ⟨rfl, rfl, rfl, e4, _⟩ | ⟨e1, e2, _⟩
      · -- refused
        have hne := gerr_ne e2
        have HS := Lib.hid (show grT (ops.take (k + 1)) = t.tr by rw [HST.out]; simp [grR, e2])
        clear e2 HST
        go_wp2
        go_roundg (gk - 1)
        case measure => omega
        case rel => exact ⟨k + 1, by omega, by omega, by go_num, HN2.out, t, HR2.out, HS.out.symm⟩
      · -- put: it was there
        have HS := Lib.hid (show grT (ops.take (k + 1)) = t.tr by rw [HST.out]; simp [grR, ins_has HUP.out e4])
        clear e4 HST
        go_wp2
        go_roundg (gk - 1)
        case measure => omega
        case rel => exact ⟨k + 1, by omega, by omega, by go_num, HN2.out, t, HR2.out, HS.out.symm⟩
      · -- put: it comes
        have HX := Lib.hid e4
        have HS := Lib.hid (show grT (ops.take (k + 1)) = t.tr.ins key by rw [HST.out]; simp [grR])
        clear e4 HST
        go_wp2
        obtain ⟨V, hV⟩ : ∃ V, ((wr.alloc (opO 1 key val)).alloc (anO ⟨0, ak, av, false⟩)) = V := ⟨_, rfl⟩
        have hkV : V.cell? ⟨wr.heap.size, 1, none⟩ = some (I key) := by
          rw [← hV, World.cell?_alloc_old _ _ _ (by simp)]
          simp
        have hgV : wr.heap.size < V.heap.size := by rw [← hV]; simp; omega
        rw [hV] at HR2 HN2 ⊢
        have hBV : w1.heap.size ≤ V.heap.size := by omega
        have HRd : Hid (Rep w1.heap.size V.drew w1.heap.size .top t) := HR2.out.keep fun _ _ => rfl
        have HNd : Hid (Below w1.heap.size w1 V.drew) := HN2.out.drew
        clear hV HR2 HN2 hc0 hc1 hc2 ha0 ha1 ha2 ha3
        go_region_with (first
          | (go_at_call 60
             refine (placeOf_any _ _ t key _ (by first | exact HRd.out | exact HRd.out.alloc _)).mono ?_
             rintro e w2 ⟨c1, s, b1, o1, rfl, ea, rfl, hR2, _, hf, hm⟩
             have hcl : (V.alloc (.cells #[I key, .pointer none, .pointer none] 111)).cell? ⟨b1, o1, none⟩ = some (.pointer s.q) := by
               rw [← ea]
               first | exact hR2.ctx.cell.1 | exact (hR2.alloc _).ctx.cell.1
             have hfz : (V.alloc (.cells #[I key, .pointer none, .pointer none] 111)).frozen? ⟨b1, o1, none⟩ = false := by
               rw [← ea]
               first | exact hR2.ctx.cell.2 | exact (hR2.alloc _).ctx.cell.2
             have hcl1 : (V.drew.alloc (.cells #[I key, .pointer none, .pointer none] 111)).cell? ⟨b1, o1, none⟩ = some (.pointer s.q) := hcl
             have hfz1 : (V.drew.alloc (.cells #[I key, .pointer none, .pointer none] 111)).frozen? ⟨b1, o1, none⟩ = false := hfz
             have hbl : w1.heap.size ≤ b1 := by have := hR2.blk; rw [ea] at this; exact this
             have HNW : Hid (∃ t' : PT, Rep w1.heap.size ((V.drew.alloc (.cells #[I key, .pointer none, .pointer none] 111)).setCell ⟨b1, o1, none⟩ (.pointer (some ⟨V.heap.size, 0, none⟩))) w1.heap.size .top t' ∧ t'.tr = t.tr.ins key) := by
               show ∃ _, _
               rw [← ea]
               have hy : ∀ y ∈ c1.bs w1.heap.size, y < V.drew.heap.size := fun y hy => HRd.out.lt y (hm y (List.mem_append.2 (.inr hy)))
               first | exact Rep.newLeaf2 (w := V.drew) hR2 hy hf HX.out hBV | exact Rep.newLeaf2 (w := V.drew) (hR2.alloc _) hy hf HX.out hBV
             clear hR2 hf ea hm)
          | fail)
        all_goals go_wp2
        all_goals go_roundg (gk - 1)
        all_goals first
          | omega
          | (obtain ⟨t', hR', et'⟩ := HNW.out
             exact ⟨k + 1, by omega, by omega, by go_num, ((HNd.out.alloc hBV _).setCell hbl _), t', hR', by rw [et', HS.out]⟩)
      · -- taken away
        have HX := Lib.hid e4
        have HS := Lib.hid (show grT (ops.take (k + 1)) = t.tr.alter key Tr.cutTop by rw [HST.out, ← del_alter HUP.out]; simp [grR])
        clear e4 HST
        go_wp2_with fail
        refine (placeOf_any _ _ t key _ HR2.out).mono ?_
        rintro e w2 ⟨c1, s, b1, o1, rfl, ea, rfl, hR2, hs, hf, _⟩
        obtain ⟨sa, sb, hsub⟩ := sub_has HUP.out HX.out
        rw [hsub] at hs
        cases s with
        | nil => simp [PT.tr] at hs
        | node g l kk r =>
          simp only [PT.tr, Tr.node.injEq] at hs
          obtain ⟨_, rfl, _⟩ := hs
          have HRM := Lib.hid (remove_any _ _ b1 o1 c1 g kk l r _ hR2 ea)
          have HF := Lib.hid (hf Tr.cutTop)
          clear hR2 hf ea hsub
          go_wp2_with fail
          refine HRM.out.mono ?_
          rintro e w3 ⟨rfl, hb3, s3, hR3, es3⟩
          have HB3 := Lib.hid hb3
          have HR3 := Lib.hid hR3
          have HE3 := Lib.hid es3
          clear hb3 hR3 es3 HRM
          go_wp2
          go_roundg (gk - 1)
          case measure => omega
          case rel =>
            obtain ⟨t', hR', et'⟩ := HR3.out.up
            refine ⟨k + 1, by omega, by omega, by go_num, HN2.out.trans HB3.out, t', hR', ?_⟩
            rw [et', HE3.out, HS.out, ← HF.out]
            rfl
      · -- taken away: it was not there
        have HS := Lib.hid (show grT (ops.take (k + 1)) = t.tr by rw [HST.out]; simp [grR, del_none e4])
        clear e4 HST
        go_wp2
        go_roundg (gk - 1)
        case measure => omega
        case rel => exact ⟨k + 1, by omega, by omega, by go_num, HN2.out, t, HR2.out, HS.out.symm⟩
      · by_cases hae : ae = 0
        · subst hae
          have HS := Lib.hid (show grT (ops.take (k + 1)) = t.tr by rw [HST.out]; simp [grR, e1, e2])
          have h1 : (kind == 1) = false := by simpa using e1
          have h3 : (kind == 3) = false := by simpa using e2
          clear e1 e2 HST
          go_wp2
          go_roundg (gk - 1)
          case measure => omega
          case rel => exact ⟨k + 1, by omega, by omega, by go_num, HN2.out, t, HR2.out, HS.out.symm⟩
        · have hne := gerr_ne hae
          have HS := Lib.hid (show grT (ops.take (k + 1)) = t.tr by rw [HST.out]; simp [grR, hae])
          clear e1 e2 HST hae
          go_wp2
          go_roundg (gk - 1)
          case measure => omega
          case rel => exact ⟨k + 1, by omega, by omega, by go_num, HN2.out, t, HR2.out, HS.out.symm⟩
    · have HTL := Lib.hid (show t.tr = grT ops by rw [HT.out, List.take_of_length_le (by rw [HL.out]; omega)])
      have HSZ := Lib.hid (show t.tr.size ≤ 200 by rw [HTL.out]; exact grT_size ops)
      have htop : wr.cell? ⟨w1.heap.size, 0, none⟩ = some (.pointer t.q) := HR.out.ctx.cell.1
      go_wp2_with fail
      refine (spots_any t wr.heap.size (.slice none 0 0) [] 0 wr HR.out.lay (fun x hx => HR.out.lay.lt x hx) (World.ownsRow_nil _ _ _ _) (Nat.le_refl _) (by have := HSZ.out; simp; omega) (Int.le_refl _) (by have := HSZ.out; omega)).mono ?_
      rintro e w3 ⟨v3, rfl, ho3, hb3⟩
      obtain ⟨A3, c3, rfl, hps, _⟩ := OwnR.ps ho3
      have HPS := Lib.hid hps
      have HB3 := Lib.hid hb3
      clear ho3 hps hb3
      go_wp2
      go_ret3
      have HSL := Lib.hid (show (([] : PL) ++ t.tr.sp 0) = (grT ops).sp 0 by rw [HTL.out]; simp)
      have hz1 := HB1.out.size
      refine ⟨A3, _, c3, A2, _, c2, rfl, ?_, (HA.out.below HNX.out).below HB3.out, (HB1.out.trans (HNX.out.mono hz1)).trans (HB3.out.mono (by omega))⟩
      have := HPS.out
      rw [← HSL.out]
      exact this

end Go.Proofs.YtpnjnedfcdppaaaGreatDoor

/-
  SLICES OF SLICES OF PAIRS. Nothing of the program.
-/
namespace Go.Proofs.YtpnjnedfcdppaaaGreatDoor
open Go.RowKit

theorem grow_own (w : World) (e : TypeId) (n : Nat) (h0 : 0 < n) (hn : n ≤ 1000) :
    (w.drew.alloc (.cells (Builtin.zeroCells (Value.agg #[I 0, I 0]).cells n ++ Builtin.zeroCells (Value.agg #[I 0, I 0]).cells (grownCap w n 0 e - n)) e)).ownsRow w.heap.size e 2 (.slice (some ⟨w.heap.size, 0, none⟩) 0 (grownCap w n 0 e)) ([] : PL).length (flat []) := by
  have hge := grownCap_ge w n 0 e
  refine ⟨rfl, .inr ⟨w.heap.size, grownCap w n 0 e, _, rfl, Nat.le_refl _, heap_alloc_new w.drew _, Nat.zero_le _, grownCap_le_maxLen w n 0 e (by unfold maxLen; omega), ?_, rfl⟩⟩
  rw [Array.size_append, size_zeroCells, size_zeroCells]
  simp [Value.cells]
  omega

/-- a slice of spots, with what it reads as -/
structure Sl where
  A : Option Addr
  n : Nat
  c : Nat
  L : PL
abbrev Sl.val (s : Sl) : Value := .slice s.A s.n s.c
abbrev sl0 : Sl := ⟨none, 0, 0, []⟩
def Sl.ok (w : World) (s : Sl) : Prop := PS w s.A s.n s.c s.L
/-- a slice of slices of spots -/
structure RS (w : World) (A : Option Addr) (m c : Nat) (es : List Sl) : Prop where
  len : es.length = m
  rd : Rd w w.heap.size 1 A m c (fun i _ => (es[i]?.getD sl0).val)
  each : ∀ s ∈ es, s.ok w
theorem RS.below {w w' : World} {A : Option Addr} {m c : Nat} {es : List Sl} (h : RS w A m c es) (hb : Below w.heap.size w w') : RS w' A m c es := ⟨h.len, h.rd.below hb, fun s hs => PS.below (h.each s hs) hb⟩
theorem RS.at_ {w : World} {A : Option Addr} {m c : Nat} {es : List Sl} (h : RS w A m c es) (hm : 0 < m) :
    ∃ b off, A = some ⟨b, off, none⟩ ∧ b < w.heap.size ∧ ∀ i (hi : i < m), w.cell? ⟨b, off + i, none⟩ = some (es[i]'(by rw [h.len]; exact hi)).val := by
  obtain ⟨b, off, e, hb, hc⟩ := h.rd.2 hm
  refine ⟨b, off, e, hb, fun i hi => ?_⟩
  have hl : i < es.length := by rw [h.len]; exact hi
  have h0 := hc i hi 0 (by omega)
  simpa [List.getElem?_eq_getElem hl] using h0

def sumN (es : List Sl) : Nat := es.foldr (fun s n => s.n + n) 0
def catL (es : List Sl) : PL := es.flatMap Sl.L
theorem sumN_append (a b : List Sl) : sumN (a ++ b) = sumN a + sumN b := by
  induction a with
  | nil => simp [sumN]
  | cons s t ih => simp only [sumN, List.cons_append, List.foldr_cons] at *; omega
theorem sumN_step (es : List Sl) (k : Nat) (h : k < es.length) : sumN (es.take (k + 1)) = sumN (es.take k) + es[k].n := by
  rw [List.take_succ_eq_append_getElem h, sumN_append]
  simp [sumN]
theorem sumN_take (es : List Sl) (k : Nat) : sumN (es.take k) ≤ sumN es := by
  conv => rhs; rw [← List.take_append_drop k es]
  rw [sumN_append]
  omega
theorem catL_step (es : List Sl) (k : Nat) (h : k < es.length) : catL (es.take (k + 1)) = catL (es.take k) ++ es[k].L := by
  unfold catL
  rw [List.take_succ_eq_append_getElem h, List.flatMap_append]
  simp only [List.flatMap_cons, List.flatMap_nil, List.append_nil]
theorem catL_len (es : List Sl) (w : World) (h : ∀ s ∈ es, s.ok w) : (catL es).length = sumN es := by
  induction es with
  | nil => rfl
  | cons s t ih =>
    have := (h s (by simp)).len
    have e : catL (s :: t) = s.L ++ catL t := rfl
    have e2 : sumN (s :: t) = s.n + sumN t := rfl
    rw [e, e2, List.length_append, ih (fun x hx => h x (by simp [hx])), this]

end Go.Proofs.YtpnjnedfcdppaaaGreatDoor

/-
  slices.Grow at nil, slices.Concat, of lists of spots.
-/
namespace Go.Proofs.YtpnjnedfcdppaaaGreatDoor
open Go.RowKit


set_option maxRecDepth 100000 in
set_option maxHeartbeats 1000000 in
theorem GrowZ_pos (n : Nat) (w : World) (h0 : 0 < n) (hn : n ≤ 1000) :
    Calls Tryz.prog 192 #[.slice none 0 0, I n] w fun e w' => ∃ v, e = .returned v ∧ OwnR w' w.heap.size 82 v [] ∧ Below w.heap.size w w' := by
  obtain ⟨i0, hi, hz0, hz1, hz2⟩ := info_parts gspot_info
  have hrun := fun ty => Lib.run_append_nil_zeros (P := Tryz.prog) w 41 3 ty 82 i0 _ .i64 .i64 Tryz.underlying41 Tryz.underlying3 hi hz0 n h0 (by omega) (by omega) (by rw [hz2]; omega)
  have HRUN := Lib.hid hrun
  have HOWN := Lib.hid (grow_own w 82 n h0 hn)
  have hge := grownCap_ge w n 0 82
  have HB : Hid (∀ o, Below w.heap.size w (w.drew.alloc o)) := fun o => ((Below.refl _ _).drew).alloc (Nat.le_refl _) _
  clear hi hz0 hz1 hz2 hrun
  go_enter Tryz.func192, Tryz.ntmps192
  go_wp2_with (at_builtin; refine Lib.wpList_append_run _ rfl (.tmp 20) (.tmp 21) _ _ rfl _ _ rfl rfl _ _ (HRUN.out _) ?_)
  generalize grownCap w n 0 82 = cap at *
  go_wp2
  go_ret
  exact ⟨_, rfl, HOWN.out, HB.out _⟩

set_option maxRecDepth 100000 in
set_option maxHeartbeats 1000000 in
theorem GrowZ_any (n : Nat) (w : World) (hn : n ≤ 1000) :
    Calls Tryz.prog 192 #[.slice none 0 0, I n] w fun e w' => ∃ v, e = .returned v ∧ OwnR w' w.heap.size 82 v [] ∧ Below w.heap.size w w' := by
  rcases Nat.eq_zero_or_pos n with h0 | h0
  · subst h0
    go_enter Tryz.func192, Tryz.ntmps192
    go_wp2
    go_ret
    exact ⟨_, rfl, World.ownsRow_nil _ _ _ _, Below.refl _ _⟩
  · exact GrowZ_pos n w h0 hn

set_option maxRecDepth 100000 in
set_option maxHeartbeats 2000000 in
theorem ConcatZ_any (A : Option Addr) (m c : Nat) (es : List Sl) (w : World) (h : RS w A m c es) (hm : m ≤ 1000) (h1 : sumN es ≤ 1000) :
    Calls Tryz.prog 131 #[.slice A m c] w fun e w' => ∃ v, e = .returned v ∧ OwnR w' w.heap.size 82 v (catL es) ∧ Below w.heap.size w w' := by
  have H := Lib.hid h
  have Hlen := Lib.hid h.len
  clear h
  go_enter Tryz.func131, Tryz.ntmps131
  go_wp2
  go_loop [3, 11] (fun t i => ∃ k : Nat, k ≤ m ∧ i = .int .i64 k ∧ t = .int .i64 (sumN (es.take k))) (fun _ i => m - (intOf i).toNat)
  case atStart => exact ⟨0, Nat.zero_le _, rfl, rfl⟩
  case round =>
    obtain ⟨k, hk, rfl, rfl⟩ := hrel
    by_cases hlt : k < m
    · obtain ⟨b, off, rfl, hb, hcs⟩ := H.out.at_ (by omega)
      have hkl : k < es.length := by rw [Hlen.out]; exact hlt
      have hc0 : w.cell? ⟨b, off + k, none⟩ = some es[k].val := hcs k hlt
      have hst := sumN_step es k hkl
      have hle := sumN_take es (k + 1)
      have HST := Lib.hid hst
      generalize es[k] = s at *
      have hb1 : sumN (es.take k) + s.n ≤ 1000 := by omega
      clear hst hle hcs
      generalize sumN (es.take k) = x at *
      go_wp2
      go_round
      case rel => exact ⟨k + 1, by omega, by go_num, by rw [HST.out]; go_num⟩
      case measure => simp [intOf]; omega
    · obtain rfl : k = m := by omega
      have ht : es.take k = es := List.take_of_length_le (by rw [Hlen.out]; exact Nat.le_refl _)
      rw [ht]
      clear ht
      obtain ⟨T, hT⟩ : ∃ T, sumN es = T := ⟨_, rfl⟩
      have HG := Lib.hid (GrowZ_any (sumN es) w h1)
      rw [hT] at HG h1 ⊢
      have HT := Lib.hid hT
      clear hT hlt
      go_wp2_with fail
      refine HG.out.mono ?_
      rintro e w1 ⟨v1, rfl, hown1, hb1⟩
      have HO1 := Lib.hid hown1
      have HB1 := Lib.hid hb1
      clear hown1 hb1
      go_wp2
      go_loopw [6, 27] (fun v i wr => ∃ j : Nat, j ≤ k ∧ i = .int .i64 j ∧ OwnR wr w.heap.size 82 v (catL (es.take j)) ∧ Below w.heap.size w wr) (fun _ i _ => k - (intOf i).toNat)
      case atStart => exact ⟨0, Nat.zero_le _, rfl, HO1.out, HB1.out⟩
      case round =>
        obtain ⟨j, hj, rfl, hown, hnx⟩ := hrel
        by_cases hlt : j < k
        · obtain ⟨b, off, rfl, hb, hcs⟩ := (H.out.below hnx).at_ (by omega)
          have hjl : j < es.length := by rw [Hlen.out]; exact hlt
          have hc0 : wr.cell? ⟨b, off + j, none⟩ = some es[j].val := hcs j hlt
          have hok : es[j].ok wr := (H.out.below hnx).each _ (List.getElem_mem hjl)
          have hst := catL_step es j hjl
          have hsum := sumN_step es j hjl
          have hle := sumN_take es (j + 1)
          have hcl := catL_len (es.take j) wr (fun s hs => (H.out.below hnx).each s (List.mem_of_mem_take hs))
          rw [HT.out] at hle
          have HST := Lib.hid hst
          have HOK := Lib.hid hok
          have HO := Lib.hid hown
          have HNX := Lib.hid hnx
          have hsz := hnx.size
          have hbd : (catL (es.take j)).length + es[j].n ≤ 1000 := by rw [hcl]; omega
          generalize es[j] = s at *
          clear hst hok hown hnx hcs hsum hle hcl
          go_wp2_with (at_builtin; refine wpList_app2 rfl (.tmp 31) (.tmp 32) 41 rfl 82 Tryz.underlying41 gspot_info w.heap.size u6 (catL (es.take j)) s.L s.A s.n s.c rfl rfl HO.out (PS.src HOK.out) (by omega) hsz ?_; intro v2 w2 hown2 hgrow2 _)
          have hb2 : Below w.heap.size w w2 := HNX.out.grown hgrow2 hsz (OwnR.ge HO.out)
          have HB2 := Lib.hid hb2
          have HO2 : Hid (OwnR w2 w.heap.size 82 v2 (catL (es.take (j + 1)))) := by
            show OwnR _ _ _ _ _
            rw [HST.out]
            exact hown2
          clear hown2 hgrow2 hb2
          go_roundw
          case rel => exact ⟨j + 1, by omega, by go_num, HO2.out, HB2.out⟩
          case measure => simp [intOf]; omega
        · have ht : es.take j = es := List.take_of_length_le (by rw [Hlen.out]; omega)
          rw [ht] at hown
          have HO := Lib.hid hown
          have HNX := Lib.hid hnx
          clear hown hnx ht
          go_wp2
          go_ret
          exact ⟨u6, rfl, HO.out, HNX.out⟩

end Go.Proofs.YtpnjnedfcdppaaaGreatDoor

/-
  slices.Equal at Spot.
-/
namespace Go.Proofs.YtpnjnedfcdppaaaGreatDoor
open Go.RowKit

set_option maxHeartbeats 1000000 in
theorem eqSpot_any (A A' : Option Addr) (n n' c c' : Nat) (l m : PL) (w : World) (h : PS w A n c l) (h' : PS w A' n' c' m) (hn : n ≤ 1000000) (hn' : n' ≤ 1000000) :
    Calls Tryz.prog 42 #[.slice A n c, .slice A' n' c'] w fun e w' => e = .returned (.bool (decide (l = m))) ∧ Below w.heap.size w w' := by
  have H := Lib.hid h
  have H' := Lib.hid h'
  clear h h'
  by_cases hnn : n = n'
  · subst hnn
    have hne : ((n : Int) != (n : Int)) = false := by simp
    go_enter Tryz.func42, Tryz.ntmps42
    go_wp2
    go_loopw [13] (fun i wr => ∃ k : Nat, k ≤ n ∧ i = .int .i64 k ∧ sameTo l m k ∧ Below w.heap.size w wr) (fun i _ => n - (intOf i).toNat)
    case atStart => exact ⟨0, Nat.zero_le _, rfl, fun i hi => absurd hi (by omega), Below.refl _ _⟩
    case round =>
      obtain ⟨k, hk, rfl, hsame, hnx⟩ := hrel
      have hsz := hnx.size
      by_cases hlt : k < n
      · obtain ⟨b, off, rfl, hb, hc⟩ := H.out.at_ (by omega)
        obtain ⟨b', off', rfl, hb', hc'⟩ := H'.out.at_ (by omega)
        have hkl : k < l.length := by have := H.out.len; omega
        have hkm : k < m.length := by have := H'.out.len; omega
        have hc0 : wr.cell? ⟨b, off + k * 2, none⟩ = some (I l[k].1) := (hnx.cell (by exact hb)).trans (hc k hlt).1
        have hc1 : wr.cell? ⟨b, off + k * 2 + 1, none⟩ = some (I l[k].2) := (hnx.cell (by exact hb)).trans (hc k hlt).2
        have hd0 : wr.cell? ⟨b', off' + k * 2, none⟩ = some (I m[k].1) := (hnx.cell (by exact hb')).trans (hc' k hlt).1
        have hd1 : wr.cell? ⟨b', off' + k * 2 + 1, none⟩ = some (I m[k].2) := (hnx.cell (by exact hb')).trans (hc' k hlt).2
        clear hc hc'
        by_cases heq : l[k] = m[k]
        · have HS : Hid (sameTo l m (k + 1)) := sameTo_succ hsame (by rw [List.getElem?_eq_getElem hkl, List.getElem?_eq_getElem hkm, heq])
          have hb0 : (l[k].1 == m[k].1) = true := by simp [heq]
          have hb1 : (l[k].2 == m[k].2) = true := by simp [heq]
          have HE := Lib.hid heq
          clear heq hsame
          go_wp2
          go_quiet (fail)
          go_wp2
          go_roundw
          case rel => exact ⟨k + 1, by omega, by go_num, HS.out, below_drewN hnx _⟩
          case measure => simp [intOf]; omega
        · have HF : Hid (decide (l = m) = false) := by
            refine decide_eq_false ?_
            intro e
            subst e
            exact heq rfl
          have hne2 : l[k].1 ≠ m[k].1 ∨ l[k].2 ≠ m[k].2 := by
            by_cases h1 : l[k].1 = m[k].1
            · right; intro h2; exact heq (Prod.ext h1 h2)
            · left; exact h1
          clear heq hsame
          by_cases h1 : l[k].1 = m[k].1
          · have hb0 : (l[k].1 == m[k].1) = true := by simp [h1]
            have hb1 : (l[k].2 == m[k].2) = false := by
              rcases hne2 with h2 | h2
              · exact absurd h1 h2
              · simp [h2]
            clear hne2 h1
            go_wp2
            go_quiet (fail)
            go_wp2
            go_ret
            exact ⟨by rw [HF.out]; rfl, below_drewN hnx _⟩
          · have hb0 : (l[k].1 == m[k].1) = false := by simp [h1]
            clear hne2 h1
            go_wp2
            go_quiet (fail)
            go_wp2
            go_ret
            exact ⟨by rw [HF.out]; rfl, below_drewN hnx _⟩
      · have HF : Hid (decide (l = m) = true) := decide_eq_true (eq_step H.out.len H'.out.len (by omega) hsame)
        clear hsame
        go_wp2
        go_ret
        exact ⟨by rw [HF.out]; rfl, hnx⟩
  · have HF : Hid (decide (l = m) = false) := by
      refine decide_eq_false ?_
      intro e
      subst e
      exact hnn (H.out.len.symm.trans H'.out.len)
    have hne : ((n : Int) != (n' : Int)) = true := by simp; omega
    clear hnn
    go_enter Tryz.func42, Tryz.ntmps42
    go_wp2
    go_ret
    exact ⟨by rw [HF.out]; rfl, Below.refl _ _⟩

end Go.Proofs.YtpnjnedfcdppaaaGreatDoor

/-
  package zip: zipped, isZipped.
-/
namespace Go.Proofs.YtpnjnedfcdppaaaGreatDoor
open Go.RowKit

theorem zrs_at {w : World} {b t : Nat} {s : Sl} (hb : w.heap[b]? = some (.cells #[s.val] t (0, 0))) (hs : s.ok w) : RS w (some ⟨b, 0, none⟩) 1 1 [s] := by
  have hlt : b < w.heap.size := by
    rcases Nat.lt_or_ge b w.heap.size with hlt | hge
    · exact hlt
    · rw [Array.getElem?_eq_none hge] at hb; cases hb
  refine ⟨rfl, ⟨Nat.le_refl _, fun _ => ⟨b, 0, rfl, hlt, fun i hi j hj => ?_⟩⟩, ?_⟩
  · obtain rfl : j = 0 := by omega
    obtain rfl : i = 0 := by omega
    rw [cell_of_row _ _ _ _ _ _ hb]
    rfl
  · intro x hx
    simp only [List.mem_cons, List.not_mem_nil, or_false] at hx
    subst hx
    exact hs
theorem zrs_one (w : World) (t : Nat) (s : Sl) (h : s.ok w) : RS (w.alloc (.cells #[s.val] t)) (some ⟨w.heap.size, 0, none⟩) 1 1 [s] := zrs_at (heap_alloc_new w _) (PS.alloc h _)
theorem zrs_two {w : World} {b t : Nat} {s1 s2 : Sl} (hb : w.heap[b]? = some (.cells #[s1.val, s2.val] t (0, 0))) (h1 : s1.ok w) (h2 : s2.ok w) : RS w (some ⟨b, 0, none⟩) 2 2 [s1, s2] := by
  have hlt : b < w.heap.size := by
    rcases Nat.lt_or_ge b w.heap.size with hlt | hge
    · exact hlt
    · rw [Array.getElem?_eq_none hge] at hb; cases hb
  refine ⟨rfl, ⟨Nat.le_refl _, fun _ => ⟨b, 0, rfl, hlt, fun i hi j hj => ?_⟩⟩, ?_⟩
  · obtain rfl : j = 0 := by omega
    rw [cell_of_row _ _ _ _ _ _ hb]
    rcases (show i = 0 ∨ i = 1 by omega) with rfl | rfl
    · rfl
    · rfl
  · intro s hs
    simp only [List.mem_cons, List.not_mem_nil, or_false] at hs
    rcases hs with rfl | rfl
    · exact h1
    · exact h2

/-- spots in new memory -/
def RetZ (L : PL) (n : Nat) (w : World) (e : Ending) (w' : World) : Prop := ∃ A c, e = .returned (.slice A n c) ∧ PS w' A n c L ∧ Below w.heap.size w w'

set_option maxRecDepth 100000 in
set_option maxHeartbeats 1000000 in
theorem zipped_any (A : Option Addr) (m c : Nat) (es : List Sl) (t : Tr) (w : World) (h : RS w A m c es) (hm : m ≤ 1000) (h1 : sumN es ≤ 1000) (ht : Hp t (zpl (kys (catL es)))) (hT : Tb w) :
    Calls Tryz.prog 63 #[.slice A m c] w (RetZ (t.sp 0) (sumN es) w) := by
  have HC := Lib.hid (ConcatZ_any A m c es w h hm h1)
  have hlen : (catL es).length = sumN es := catL_len es w h.each
  have hts : t.size = sumN es := by rw [← hp_len ht, zpl_kys_len, hlen]
  have HSL : Hid ((t.sp 0).length = sumN es) := by show _ = _; rw [sp_length, hts]
  have HP := Lib.hid ht
  have HT := Lib.hid hT
  have HLEN := Lib.hid hlen
  have hw0 := hT.lt
  obtain ⟨n, hn⟩ : ∃ n, sumN es = n := ⟨_, rfl⟩
  rw [hn] at HSL HLEN h1 ⊢
  clear h ht hT hlen hts hn
  go_enter Tryz.func63, Tryz.ntmps63
  go_wp2_with fail
  refine HC.out.mono ?_
  rintro e w1 ⟨v1, rfl, hown, hb1⟩
  have HB1 := Lib.hid hb1
  have hz1 := hb1.size
  have HT1 := Lib.hid (HT.out.next hb1)
  rcases Nat.eq_zero_or_pos n with h0 | h0
  · subst h0
    obtain ⟨A1, c1, rfl, hps, _⟩ := hown.ps
    rw [HLEN.out] at hps ⊢
    have hnil : t.sp 0 = [] := List.eq_nil_of_length_eq_zero HSL.out
    have HPS : Hid (PS w1 A1 0 c1 (t.sp 0)) := by show PS _ _ _ _ _; rw [hnil]; exact ⟨rfl, Rd.none_⟩
    clear hps hown hb1 HC hnil
    go_wp2_with fail
    refine (zstand_nil A1 c1 0 w1).mono ?_
    rintro e w2 ⟨rfl, rfl⟩
    go_wp2
    go_ret
    exact ⟨A1, c1, rfl, HPS.out, HB1.out⟩
  · obtain ⟨A1, c1, rfl, hps, _⟩ := hown.ps
    obtain ⟨g, rfl, hn1, hbg, hcap, hsb⟩ := hown.sb (by rw [HLEN.out]; exact h0)
    rw [HLEN.out] at hcap ⊢
    have HST := Lib.hid (zstand_any t g 0 n c1 [] (catL es) [] 0 w1 HP.out rfl HLEN.out (by simpa using hsb) hcap (by omega) (by omega) (Int.le_refl _) (by omega) HT1.out)
    clear hps hown hb1 HC hsb hn1
    go_wp2_with fail
    refine HST.out.mono ?_
    rintro e w2 ⟨rfl, hs2, hb2⟩
    have HPS : Hid (PS w2 (some ⟨g, 0, none⟩) n c1 (t.sp 0)) := by
      have hs3 : SB w2 g 82 (t.sp 0) := by simpa using hs2
      have := hs3.ps (c := c1) (by rw [HSL.out]; exact hcap)
      rwa [HSL.out] at this
    have HB2 := Lib.hid (HB1.out.trans (hb2.mono hbg))
    clear hs2 hb2 HST
    go_wp2
    go_ret
    exact ⟨_, c1, rfl, HPS.out, HB2.out⟩

/-- of one list -/
theorem zip1_any (A : Option Addr) (n c b : Nat) (l : PL) (t : Tr) (w : World) (ty : Nat) (hb : w.heap[b]? = some (.cells #[.slice A n c] ty (0, 0))) (h : PS w A n c l) (hn : n ≤ 1000) (ht : Hp t (zpl (kys l))) (hT : Tb w) :
    Calls Tryz.prog 63 #[.slice (some ⟨b, 0, none⟩) 1 1] w (RetZ (t.sp 0) n w) := by
  have hc : catL [⟨A, n, c, l⟩] = l := by simp [catL]
  have hs : sumN [⟨A, n, c, l⟩] = n := by simp [sumN]
  have := zipped_any (some ⟨b, 0, none⟩) 1 1 [⟨A, n, c, l⟩] t w (zrs_at hb h) (by omega) (by rw [hs]; exact hn) (by rw [hc]; exact ht) hT
  rw [hs] at this
  exact this

end Go.Proofs.YtpnjnedfcdppaaaGreatDoor

/-
  zip.Run.
-/
namespace Go.Proofs.YtpnjnedfcdppaaaGreatDoor
open Go.RowKit

theorem flat_set0 (l : PL) (i : Nat) (v : Int) (h : i < l.length) : (flat l).set (i * 2) (I v) = flat (l.set i (v, l[i].2)) := by
  induction l generalizing i with
  | nil => simp at h
  | cons p t ih => cases i with
    | zero => simp [flat]
    | succ i =>
      rw [show (i + 1) * 2 = i * 2 + 1 + 1 by omega]
      have := ih i (by simpa using h)
      simp [flat, this]
theorem PB.set0 {w : World} {g t : Nat} {L : PL} (h : PB w g t L) (i : Nat) (v : Int) (hi : i < L.length) : PB (w.setCell ⟨g, i * 2, none⟩ (I v)) g t (L.set i (v, L[i].2)) := by
  unfold PB at *
  rw [setCell_eq_setRow w g (i * 2) _ t (0, 0) (I v) h, setRow_heap w g _ _ t (0, 0) h, ← flat_set0 L i v hi]
  simp
/-- the keys of the first k, with no Depth yet -/
def zsTo (l : PL) (k : Nat) : PL := (l.take k).map (fun p => (p.1, (0 : Int))) ++ List.replicate (l.length - k) (0, 0)
theorem zsTo_len (l : PL) (k : Nat) (h : k ≤ l.length) : (zsTo l k).length = l.length := by simp [zsTo]; omega
theorem zsTo_set (l : PL) (k : Nat) (h : k < l.length) : (zsTo l k).set k (l[k].1, (0 : Int)) = zsTo l (k + 1) := by
  unfold zsTo
  have h1 : ((l.take k).map (fun p => (p.1, (0 : Int)))).length = k := by simp; omega
  rw [List.set_append_right _ _ (by omega), h1, Nat.sub_self, List.take_succ_eq_append_getElem h, show l.length - k = l.length - (k + 1) + 1 by omega, List.replicate_succ]
  rw [List.map_append]
  simp only [List.set_cons_zero, List.map_cons, List.map_nil, List.append_assoc, List.cons_append, List.nil_append]
theorem zsTo_at (l : PL) (k : Nat) (h : k < l.length) : (zsTo l k)[k]? = some (0, 0) := by
  unfold zsTo
  have h1 : ((l.take k).map (fun p => (p.1, (0 : Int)))).length = k := by simp; omega
  rw [List.getElem?_append_right (by omega), h1, Nat.sub_self, show l.length - k = l.length - (k + 1) + 1 by omega, List.replicate_succ]
  rfl
theorem zsTo_all (l : PL) : kys (zsTo l l.length) = kys l := by
  unfold zsTo kys
  rw [List.take_of_length_le (Nat.le_refl _)]
  simp

/-- a tree, answers, and what went wrong -/
def RetRunZ (L : PL) (n : Nat) (a : List An) (er : Int) (w : World) (e : Ending) (w' : World) : Prop :=
  ∃ A c A' n' c', e = .returned (.tuple #[.slice A n c, .slice A' n' c', I er]) ∧ PS w' A n c L ∧ AS w' A' n' c' a ∧ Below w.heap.size w w'

set_option maxRecDepth 100000 in
set_option maxHeartbeats 1000000 in
theorem RunZ_large (A : Option Addr) (n c : Nat) (w : World) (hn : 300 < n) (hm : n ≤ 9223372036854775807) :
    Calls Tryz.prog 22 #[.slice A n c] w fun e w' => e = .returned (.tuple #[.slice none 0 0, .slice none 0 0, I 2]) ∧ Below w.heap.size w w' := by
  have HC := Lib.hid (Run_large A n c w hn hm)
  go_enter Tryz.func22, Tryz.ntmps22
  go_wp2_with fail
  refine HC.out.mono ?_
  rintro e w1 ⟨A1, n1, c1, A2, n2, c2, rfl, hps, has, hb1⟩
  have HB1 := Lib.hid hb1
  clear hps has hb1
  go_wp2
  go_ret3
  exact ⟨rfl, HB1.out⟩

set_option maxRecDepth 100000 in
set_option maxHeartbeats 2000000 in
theorem RunZ_any (A : Option Addr) (n c : Nat) (ops : List OP) (t : Tr) (m : Nat) (w : World) (h : OS w A n c ops) (hn : n ≤ 300) (hl : (runR ops).1.length = m) (hm : m ≤ 200) (ht : Hp t (zpl (kys (runR ops).1))) (hT : Tb w) :
    Calls Tryz.prog 22 #[.slice A n c] w (RetRunZ (t.sp 0) m (runR ops).2 0 w) := by
  have HC := Lib.hid (Run_any A n c ops w h hn)
  have HT := Lib.hid hT
  have HP := Lib.hid ht
  obtain ⟨l, hll⟩ : ∃ l, (runR ops).1 = l := ⟨_, rfl⟩
  obtain ⟨an, han⟩ : ∃ an, (runR ops).2 = an := ⟨_, rfl⟩
  rw [hll] at HC hl HP
  rw [han] at HC ⊢
  clear h hT hll han ht
  go_enter Tryz.func22, Tryz.ntmps22
  go_wp2_with fail
  refine HC.out.mono ?_
  rintro e w1 ⟨A1, n1, c1, A2, n2, c2, rfl, hps, has, hb1⟩
  obtain rfl : n1 = m := by rw [← hps.len]; exact hl
  have HPS := Lib.hid hps
  have HL := Lib.hid hps.len
  have HAS := Lib.hid has
  have HB1 := Lib.hid hb1
  have hz1 := hb1.size
  have hmk := fun w => run_makeP (P := Tryz.prog) 41 82 Tryz.underlying41 gspot_info n1 (by omega) w
  clear hps has hb1 HC hl
  go_wp2
  go_loopw [25] (fun i wr => ∃ k : Nat, k ≤ n1 ∧ i = .int .i64 k ∧ PB wr w1.heap.size 82 (zsTo l k) ∧ Below w1.heap.size w1 wr) (fun i _ => n1 - (intOf i).toNat)
  case atStart => exact ⟨0, Nat.zero_le _, rfl, by have := PB.new w1 82 (List.replicate n1 (0, 0)); simpa [zsTo, HL.out] using this, (Below.refl _ _).alloc (Nat.le_refl _) _⟩
  case round =>
    obtain ⟨k, hk, rfl, hib, hnx⟩ := hrel
    by_cases hlt : k < n1
    · have hkl : k < l.length := by rw [HL.out]; exact hlt
      obtain ⟨b, off, rfl, hbw, hcs⟩ := HPS.out.at_ (by omega)
      obtain ⟨x, hx⟩ : ∃ x, l[k].1 = x := ⟨_, rfl⟩
      obtain ⟨y, hy⟩ : ∃ y, l[k].2 = y := ⟨_, rfl⟩
      have hc0 : wr.cell? ⟨b, off + k * 2, none⟩ = some (I x) := by rw [← hx]; exact (hnx.cell (by exact hbw)).trans (hcs k hlt).1
      have hc1 : wr.cell? ⟨b, off + k * 2 + 1, none⟩ = some (I y) := by rw [← hy]; exact (hnx.cell (by exact hbw)).trans (hcs k hlt).2
      have hl2 := zsTo_len l k (by omega)
      have hat := zsTo_at l k hkl
      have hkz : k < (zsTo l k).length := by omega
      rw [List.getElem?_eq_getElem hkz] at hat
      have hat2 := Option.some.inj hat
      have hcell : wr.cell? ⟨w1.heap.size, k * 2, none⟩ = some (I 0) := by
        rw [hib.cell, (flat_at (zsTo l k) k hkz).1, hat2]
      have hfz : wr.frozen? ⟨w1.heap.size, k * 2, none⟩ = false := hib.frozen _
      have hlt1 : w1.heap.size < wr.heap.size := hib.lt
      have hbl : b < wr.heap.size := Nat.lt_of_lt_of_le hbw hnx.size
      have HIB := Lib.hid hib
      have HNX := Lib.hid hnx
      have HSET : Hid (∀ w2, PB w2 w1.heap.size 82 (zsTo l k) → PB (w2.setCell ⟨w1.heap.size, k * 2, none⟩ (I x)) w1.heap.size 82 (zsTo l (k + 1))) := fun w2 h2 => by
        have := h2.set0 k x hkz
        rw [hat2, ← hx, zsTo_set l k hkl, hx] at this
        exact this
      clear hib hnx hcs hl2 hx hy hat hat2 hkz
      go_wp2
      go_roundw
      case rel => exact ⟨k + 1, by omega, by go_num, (HSET.out wr HIB.out).below ((Below.refl _ _).alloc (Nat.le_refl _) _) (HSET.out wr HIB.out).lt, (HNX.out.setCell (Nat.le_refl _) _).alloc (by simpa [World.setCell] using HNX.out.size) _⟩
      case measure => simp [intOf]; omega
    · have HIS : Hid (PS wr (some ⟨w1.heap.size, 0, none⟩) n1 n1 (zsTo l n1)) := by
        obtain rfl : k = n1 := by omega
        have hl := zsTo_len l k (by rw [HL.out]; exact Nat.le_refl _)
        rw [HL.out] at hl
        have := hib.ps (c := k) (by omega)
        rw [hl] at this
        exact this
      have HP2 : Hid (Hp t (zpl (kys (zsTo l n1)))) := by
        have := zsTo_all l
        rw [HL.out] at this
        show Hp _ _
        rw [this]
        exact HP.out
      have HTR := Lib.hid ((HT.out.next HB1.out).next hnx)
      have HZ : Hid (∀ o, o = Obj.cells #[.slice (some ⟨w1.heap.size, 0, none⟩) n1 n1] 41 → Calls Tryz.prog 63 #[.slice (some ⟨wr.heap.size, 0, none⟩) 1 1] (wr.alloc o) (RetZ (t.sp 0) n1 (wr.alloc o))) := fun o ho => by
        subst ho
        exact zip1_any _ n1 n1 wr.heap.size _ t _ _ (heap_alloc_new wr _) (HIS.out.alloc _) (by omega) HP2.out (HTR.out.next ((Below.refl _ _).alloc (Nat.le_refl _) _))
      have HNX := Lib.hid hnx
      clear hib hnx
      go_wp2_with fail
      refine (HZ.out _ rfl).mono ?_
      rintro e w3 ⟨A3, c3, rfl, hps3, hb3⟩
      have hbx : Below wr.heap.size wr w3 := ((Below.refl _ _).alloc (Nat.le_refl _) _).trans (hb3.mono (by simp))
      have HPS3 := Lib.hid hps3
      have HB13 := Lib.hid (HNX.out.trans (hbx.mono HNX.out.size))
      have HB3 := Lib.hid (HB1.out.trans (HB13.out.mono hz1))
      clear hps3 hb3 hbx HZ
      go_wp2
      go_ret3
      exact ⟨A3, c3, A2, n2, c2, rfl, HPS3.out, HAS.out.below HB13.out, HB3.out⟩
end Go.Proofs.YtpnjnedfcdppaaaGreatDoor
