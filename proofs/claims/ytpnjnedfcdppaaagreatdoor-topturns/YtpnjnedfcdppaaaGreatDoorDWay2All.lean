/-
  Joined texts: YtpnjnedfcdppaaaGreatDoorORun, YtpnjnedfcdppaaaGreatDoorOSum, YtpnjnedfcdppaaaGreatDoorDWay, YtpnjnedfcdppaaaGreatDoorDWay2.
-/
import Derived.Test.YtpnjnedfcdppaaaGreatDoorOTree2All
import Derived.Test.YtpnjnedfcdppaaaGreatDoorRunAAll
import Derived.Test.YtpnjnedfcdppaaaGreatDoorOPureAll
import Derived.Test.YtpnjnedfcdppaaaGreatDoorSParAll
import Derived.Test.YtpnjnedfcdppaaaGreatDoorSpotBAll
import Derived.Deep.LoopGhost
import Derived.Test.YtpnjnedfcdppaaaGreatDoorDAnsAll
import Derived.Test.YtpnjnedfcdppaaaGreatDoorGHeapAll
import Derived.Test.YtpnjnedfcdppaaaGreatDoorZRunAll
import Derived.Test.YtpnjnedfcdppaaaGreatDoorGRefTAll
/-
  package goat: Run.
-/
namespace Go.Proofs.YtpnjnedfcdppaaaGreatDoor
open Go.RowKit

theorem results_tmp4 {fn : Func} {t u v x : Tmp} (h : fn.results = #[.tmp t, .tmp u, .tmp v, .tmp x]) (tmps : Array Value) (P : Program) (w : World) :
    (results fn tmps).run P w = .ok (.tuple #[tmps.getD t undef, tmps.getD u undef, tmps.getD v undef, tmps.getD x undef]) w := by
  simp [results, h]
theorem oerr_ne {E : Int} (h : E ≠ 0) : (E != 0) = true := by simpa using h
/-- no more came and went than there are ops -/
theorem cn_le (ops : List OP) : (goN ops).came + (goN ops).went ≤ ops.length := by
  have h : ∀ (ops : List OP) (s : GS) (c : Cn) (l : PL), (ops.foldl (fun s o => (goR s.1 o (doA s.2.2 o.1 o.2.1), cnR s.2.1 o (doA s.2.2 o.1 o.2.1), doL s.2.2 o.1 o.2.1 o.2.2)) (s, c, l)).2.1.came + (ops.foldl (fun s o => (goR s.1 o (doA s.2.2 o.1 o.2.1), cnR s.2.1 o (doA s.2.2 o.1 o.2.1), doL s.2.2 o.1 o.2.1 o.2.2)) (s, c, l)).2.1.went ≤ c.came + c.went + ops.length := by
    intro ops
    induction ops with
    | nil => intro s c l; exact Nat.le_refl _
    | cons o ops ih =>
      intro s c l
      have h1 := ih (goR s o (doA l o.1 o.2.1)) (cnR c o (doA l o.1 o.2.1)) (doL l o.1 o.2.1 o.2.2)
      have h2 : (cnR c o (doA l o.1 o.2.1)).came + (cnR c o (doA l o.1 o.2.1)).went ≤ c.came + c.went + 1 := by
        unfold cnR
        split
        · omega
        · split
          · show c.came + 1 + c.went ≤ _; omega
          · split
            · show c.came + (c.went + 1) ≤ _; omega
            · show c.came + c.went ≤ _; omega
      rw [List.length_cons]
      refine Nat.le_trans h1 ?_
      omega
  have := h ops ⟨.nil, 0, 0⟩ ⟨0, 0, 0, 0⟩ []
  show (goL ops).2.1.came + (goL ops).2.1.went ≤ _
  unfold goL
  simpa using this
structure GB (s : GS) : Prop where
  up : Up s.t.ks
  size : s.t.size ≤ 200
  most : s.most ≤ 200
  built : s.built ≤ 27000
theorem go_bounds (ops : List OP) (h : ops.length ≤ 300) : GB (goT ops) := by
  have hi := go_inv ops
  have h1 := hi.inv.size
  have h2 := hi.inv.most
  have h3 := hi.inv.cap
  refine ⟨hi.inv.up, by omega, by omega, ?_⟩
  have h4 := go_work ops
  have h5 := cn_le ops
  have h6 : dpst (goN ops).top ≤ 13 := by
    have := dpst_mono (show (goN ops).top ≤ 200 from h3)
    rw [dpst_200] at this
    exact this
  have h7 : ((goN ops).came + (goN ops).went) * (dpst (goN ops).top + 2) ≤ 300 * 15 := Nat.mul_le_mul (by omega) (by omega)
  omega
theorem same_room {t : Tr} {l : PL} (h : Same t l) (key val : Int) (he : (doA l 1 key).e = 0) (hb : (doA l 1 key).b = false) : key ∉ t.ks ∧ t.size + 1 ≤ 200 := by
  rcases h.ways 1 key val with ⟨_, e2⟩ | ⟨_, _, e3, _⟩ | ⟨_, _, _, e4, e5⟩ | ⟨_, e2, _⟩ | ⟨_, e2, _⟩ | ⟨e1, _⟩
  · exact absurd he e2
  · rw [hb] at e3; cases e3
  · refine ⟨e4, ?_⟩
    have h1 : (pk (doL l 1 key val)).length = t.size + 1 := by rw [e5, ks_length, size_ins e4]
    have h2 := ((chk_zero _).1 (chk_doL h.chk 1 key val)).1
    simp only [pk, List.length_map] at h1
    omega
  · omega
  · omega
  · exact absurd rfl e1

/-- spots, how many were built, answers and an error -/
def RetO (L : PL) (n b : Nat) (a : List An) (er : Int) (w : World) (e : Ending) (w' : World) : Prop :=
  ∃ A c A' n' c', e = .returned (.tuple #[.slice A n c, I b, .slice A' n' c', I er]) ∧ PS w' A n c L ∧ AS w' A' n' c' a ∧ Below w.heap.size w w'

set_option maxHeartbeats 1000000 in
theorem ORun_large (A : Option Addr) (n c : Nat) (w : World) (hn : 300 < n) (hm : n ≤ 9223372036854775807) :
    Calls Tryz.prog 23 #[.slice A n c] w (RetO [] 0 0 [] 2 w) := by
  have HR := Lib.hid (Run_large A n c w hn hm)
  go_enter Tryz.func23, Tryz.ntmps23
  go_wp2_with fail
  refine HR.out.mono ?_
  rintro e w1 ⟨A1, n1, c1, A2, n2, c2, rfl, _, _, hb⟩
  have HB := Lib.hid hb
  clear hb
  go_wp2
  (try simp only [Exit.inBlock, Exit.then])
  refine bodyPost_ret (results_tmp4 rfl _ _ _) rfl ?_
  exact ⟨none, 0, none, 0, 0, rfl, ⟨rfl, Rd.none_⟩, ⟨rfl, Rd.none_⟩, HB.out⟩

theorem GT.below {w w' : World} {T : Nat} {s : GS} (h : GT w T s) (hb : Below w.heap.size w w') : GT w' T s := by
  obtain ⟨v, h1, h2⟩ := h
  exact ⟨v, h1.below hb h1.lt, ownR_below h2 hb⟩
theorem below_up {w w' : World} {T : Nat} (h : Below T w w') : ∀ {v : World}, Below T v w → Below T v w' := fun h' => h'.trans h

set_option maxRecDepth 100000 in
set_option maxHeartbeats 8000000 in
theorem ORun_any (A : Option Addr) (n c m : Nat) (ops : List OP) (w : World) (h : OS w A n c ops) (hn : n ≤ 300) (hm : (goT ops).t.size = m) :
    Calls Tryz.prog 23 #[.slice A n c] w (RetO ((goT ops).t.sp 0) m (goT ops).built (runR ops).2 0 w) := by
  have HR := Lib.hid (Run_any A n c ops w h hn)
  have H := Lib.hid h
  have HL := Lib.hid h.len
  have HM := Lib.hid hm
  clear h hm
  go_enter Tryz.func23, Tryz.ntmps23
  go_wp2_with fail
  refine HR.out.mono ?_
  rintro e w1 ⟨A1, n1, c1, A2, n2, c2, rfl, _, has, hb1⟩
  have H1 := Lib.hid (H.out.below hb1)
  have HA := Lib.hid has
  have HB1 := Lib.hid hb1
  have hn2 : n2 = n := by have := has.len; rw [runR_len, HL.out] at this; exact this.symm
  subst hn2
  clear has hb1 HR
  go_wp2
  go_loopg [24] n2 (fun m i wr => ∃ k : Nat, k ≤ n2 ∧ n2 - k ≤ m ∧ i = .int .i64 k ∧ Below w1.heap.size w1 wr ∧ GT wr w1.heap.size (goT (ops.take k)))
  case atStart =>
    refine ⟨0, Nat.zero_le _, by omega, rfl, (Below.refl _ _).alloc (Nat.le_refl _) _, .slice none 0 0, ?_, World.ownsRow_nil _ _ _ _⟩
    exact heap_alloc_new w1 _
  case round =>
    obtain ⟨k, hk, hkm, rfl, hnx, hG⟩ := hrel
    have HNX := Lib.hid hnx
    have HG := Lib.hid hG
    have hsz := hnx.size
    clear hnx hG
    by_cases hlt : k < n2
    · obtain ⟨b, off, rfl, hb, hc⟩ := H1.out.at_ (by omega)
      obtain ⟨ba, offa, rfl, hba, hca⟩ := HA.out.at_ (by omega)
      have hkl : k < ops.length := by rw [HL.out]; exact hlt
      have hc0 : wr.cell? ⟨b, off + k * 3, none⟩ = some (I ops[k].1) := (HNX.out.cell (by exact hb)).trans (hc k hlt).1
      have hc1 : wr.cell? ⟨b, off + k * 3 + 1, none⟩ = some (I ops[k].2.1) := (HNX.out.cell (by exact hb)).trans (hc k hlt).2.1
      have hc2 : wr.cell? ⟨b, off + k * 3 + 2, none⟩ = some (I ops[k].2.2) := (HNX.out.cell (by exact hb)).trans (hc k hlt).2.2
      have hans := runR_ans ops k hkl
      have hcak := hca k hlt
      rw [hans] at hcak
      have hst := (goL_succ ops k hkl).1
      have hgb := go_bounds (ops.take k) (by rw [List.length_take]; omega)
      have hji := (go_inv (ops.take k)).same
      have hroom := fun (key : Int) => same_room hji key
      have hways := hji.ways ops[k].1 ops[k].2.1 ops[k].2.2
      generalize hs : goT (ops.take k) = s at *
      have hroom2 : (doA (runR (ops.take k)).1 ops[k].1 ops[k].2.1).e = 0 → ops[k].1 = 1 → (doA (runR (ops.take k)).1 ops[k].1 ops[k].2.1).b = false → s.t.size + 1 ≤ 200 := fun e1 e2 e3 => by
        rw [e2] at e1 e3
        exact (hroom _ ops[k].2.2 e1 e3).2
      generalize doA (runR (ops.take k)).1 ops[k].1 ops[k].2.1 = a at hcak hways hst hroom2
      generalize ops[k] = o at hc0 hc1 hc2 hways hst hroom2
      obtain ⟨kind, key, val⟩ := o
      simp only at hc0 hc1 hc2 hways hroom2
      have ha0 : wr.cell? ⟨ba, offa + k * 4, none⟩ = some (I a.e) := (HNX.out.cell (by exact hba)).trans hcak.1
      have ha1 : wr.cell? ⟨ba, offa + k * 4 + 1, none⟩ = some (I a.k) := (HNX.out.cell (by exact hba)).trans hcak.2.1
      have ha2 : wr.cell? ⟨ba, offa + k * 4 + 2, none⟩ = some (I a.v) := (HNX.out.cell (by exact hba)).trans hcak.2.2.1
      have ha3 : wr.cell? ⟨ba, offa + k * 4 + 3, none⟩ = some (.bool a.b) := (HNX.out.cell (by exact hba)).trans hcak.2.2.2
      have HST := Lib.hid hst
      have HGB := Lib.hid hgb
      have hbw : b < wr.heap.size := by omega
      have hbaw : ba < wr.heap.size := by omega
      have HG2 := Lib.hid (HG.out.below (((Below.refl _ _).alloc (Nat.le_refl _) (opO kind key val)).alloc (by simp) (anO a)))
      have HN2 := Lib.hid ((HNX.out.alloc hsz (opO kind key val)).alloc (by simp; omega) (anO a))
      clear hc hca hcak hans hst hgb hji hroom hs
      obtain ⟨ae, ak, av, ab⟩ := a
      simp only at ha0 ha1 ha2 ha3 hways hroom2
      rcases hways with ⟨_, e2⟩ | ⟨rfl, rfl, rfl, e4, _⟩ | ⟨rfl, rfl, rfl, e4, _⟩ | ⟨rfl, rfl, rfl, e4, _⟩ | ⟨rfl, rfl, rfl, e4, _⟩ | ⟨e1, e2, _⟩
      · -- refused
        have hne := oerr_ne e2
        have HS := Lib.hid (show goT (ops.take (k + 1)) = s by rw [HST.out]; simp [goR, e2])
        clear e2 HST hroom2
        go_wp2
        go_roundg (gk - 1)
        case measure => omega
        case rel => exact ⟨k + 1, by omega, by omega, by go_num, HN2.out, by rw [HS.out]; exact HG2.out⟩
      · -- put: it was there
        have HS := Lib.hid (show goT (ops.take (k + 1)) = s by rw [HST.out]; simp [goR])
        clear e4 HST hroom2
        go_wp2
        go_roundg (gk - 1)
        case measure => omega
        case rel => exact ⟨k + 1, by omega, by omega, by go_num, HN2.out, by rw [HS.out]; exact HG2.out⟩
      · -- put: it comes
        have HS := Lib.hid (show goT (ops.take (k + 1)) = goP s key by rw [HST.out]; simp [goR])
        have HC := Lib.hid (come_any w1.heap.size s key _ HG2.out HGB.out.up e4 (hroom2 rfl rfl rfl) HGB.out.most (by have := HGB.out.built; omega))
        clear e4 HST hroom2
        go_wp2_with fail
        refine HC.out.mono ?_
        rintro e w2 ⟨rfl, hg2, hb2⟩
        have HG3 := Lib.hid hg2
        have HN3 := Lib.hid (HN2.out.trans hb2)
        clear hg2 hb2
        go_wp2
        go_roundg (gk - 1)
        case measure => omega
        case rel => exact ⟨k + 1, by omega, by omega, by go_num, HN3.out, by rw [HS.out]; exact HG3.out⟩
      · -- taken away
        have HS := Lib.hid (show goT (ops.take (k + 1)) = goC s key by rw [HST.out]; simp [goR])
        have HC := Lib.hid (leave_any w1.heap.size s key _ HG2.out HGB.out.up e4 HGB.out.size HGB.out.most (by have := HGB.out.built; omega))
        clear e4 HST hroom2
        go_wp2_with fail
        refine HC.out.mono ?_
        rintro e w2 ⟨rfl, hg2, hb2⟩
        have HG3 := Lib.hid hg2
        have HN3 := Lib.hid (HN2.out.trans hb2)
        clear hg2 hb2
        go_wp2
        go_roundg (gk - 1)
        case measure => omega
        case rel => exact ⟨k + 1, by omega, by omega, by go_num, HN3.out, by rw [HS.out]; exact HG3.out⟩
      · -- taken away: it was not there
        have HS := Lib.hid (show goT (ops.take (k + 1)) = s by rw [HST.out]; simp [goR])
        clear e4 HST hroom2
        go_wp2
        go_roundg (gk - 1)
        case measure => omega
        case rel => exact ⟨k + 1, by omega, by omega, by go_num, HN2.out, by rw [HS.out]; exact HG2.out⟩
      · by_cases hae : ae = 0
        · subst hae
          have HS := Lib.hid (show goT (ops.take (k + 1)) = s by rw [HST.out]; simp [goR, e1, e2])
          have h1 : (kind == 1) = false := by simpa using e1
          have h3 : (kind == 3) = false := by simpa using e2
          clear e1 e2 HST hroom2
          go_wp2
          go_roundg (gk - 1)
          case measure => omega
          case rel => exact ⟨k + 1, by omega, by omega, by go_num, HN2.out, by rw [HS.out]; exact HG2.out⟩
        · have hne := oerr_ne hae
          have HS := Lib.hid (show goT (ops.take (k + 1)) = s by rw [HST.out]; simp [goR, hae])
          clear e1 e2 HST hae hroom2
          go_wp2
          go_roundg (gk - 1)
          case measure => omega
          case rel => exact ⟨k + 1, by omega, by omega, by go_num, HN2.out, by rw [HS.out]; exact HG2.out⟩
    · have htk : ops.take k = ops := List.take_of_length_le (by rw [HL.out]; omega)
      rw [htk] at HG
      obtain ⟨v, hv, ho⟩ := HG.out
      obtain ⟨A3, c3, rfl, _, hps⟩ := ownR_told ho (show ((goT ops).t.sp 0).length = m by rw [sp_length]; exact HM.out)
      obtain ⟨d0, d1, d2⟩ := hv.cells
      have hvl := hv.lt
      have HPS := Lib.hid hps
      have HAS := Lib.hid (HA.out.below HNX.out)
      have HBX := Lib.hid (below_next HB1.out HNX.out)
      clear hv ho hps
      go_wp2
      go_quiet (fail)
      go_wp2
      (try simp only [Exit.inBlock, Exit.then])
      refine bodyPost_ret (results_tmp4 rfl _ _ _) rfl ?_
      exact ⟨A3, c3, A2, n2, c2, rfl, HPS.out.drewN _, ⟨HAS.out.len, HAS.out.rd⟩, below_drewN HBX.out _⟩

end Go.Proofs.YtpnjnedfcdppaaaGreatDoor

/-
  shape.Sum at a tree: the greatest Depth, and all together.
-/
namespace Go.Proofs.YtpnjnedfcdppaaaGreatDoor
open Go.RowKit

/-- the greatest Depth of the first ones -/
def mxd (l : PL) : Nat → Int
  | 0 => -1
  | k + 1 => max (mxd l k) (dp l k)
theorem mxd_ge {l : PL} : ∀ {k i : Nat}, i < k → dp l i ≤ mxd l k
  | 0, i, h => by omega
  | k + 1, i, h => by
    show _ ≤ max (mxd l k) (dp l k)
    rcases Nat.lt_or_ge i k with h1 | h1
    · have := mxd_ge (l := l) h1
      omega
    · obtain rfl : i = k := by omega
      omega
theorem mxd_le {l : PL} {B : Int} (hB : -1 ≤ B) : ∀ {k : Nat}, (∀ i, i < k → dp l i ≤ B) → mxd l k ≤ B
  | 0, _ => hB
  | k + 1, h => by
    show max (mxd l k) (dp l k) ≤ B
    have h1 := mxd_le (k := k) hB (fun i hi => h i (by omega))
    have h2 := h k (by omega)
    omega
theorem mxd_tall (t : Tr) : mxd (t.sp 0) t.size = (t.tall : Int) - 1 := by
  have h1 : mxd (t.sp 0) t.size ≤ (t.tall : Int) - 1 := mxd_le (by omega) fun i hi => by
    have := sp_tall t 0 i hi
    omega
  rcases Nat.eq_zero_or_pos t.size with h0 | h0
  · cases t with
    | nil => rfl
    | node a k b => simp only [Tr.size] at h0; omega
  · obtain ⟨i, hi, he⟩ := sp_tall_has t 0 h0
    have := mxd_ge (l := t.sp 0) hi
    omega

def RetSum2 (X S : Int) (w : World) (e : Ending) (w' : World) : Prop := e = .returned (.tuple #[I X, I S, I 0]) ∧ Below w.heap.size w w'
set_option maxRecDepth 100000 in
set_option maxHeartbeats 2000000 in
theorem Sum2_ok (A : Option Addr) (n c : Nat) (t : Tr) (w : World) (h : PS w A n c (t.sp 0)) (hT : IsTree (t.sp 0)) :
    Calls Tryz.prog 29 #[.slice A n c] w (RetSum2 ((t.tall : Int) - 1) (dsum (t.sp 0)) w) := by
  have hn : n ≤ 200 := by rw [← h.len]; exact hT.1
  have hsz0 : t.size = n := by rw [← sp_length t 0, h.len]
  have HMX := Lib.hid (mxd_tall t)
  rw [hsz0] at HMX
  obtain ⟨l, hl⟩ : ∃ l, t.sp 0 = l := ⟨_, rfl⟩
  rw [hl] at h hT HMX ⊢
  have HC := Lib.hid (CheckS_any A n c l w h (by omega))
  rw [chkS_zero.2 hT] at HC
  have H := Lib.hid h
  have HL := Lib.hid h.len
  have HD := Lib.hid (tree_dp hT)
  clear h hT hl hsz0
  go_enter Tryz.func29, Tryz.ntmps29
  go_wp2_with fail
  refine HC.out.mono ?_
  rintro e w1 ⟨rfl, hb1⟩
  have HB1 := Lib.hid hb1
  have hs1 := hb1.size
  clear hb1 HC
  go_wp2
  go_loopg [6, 7, 17] n (fun m u v i wr => ∃ k : Nat, k ≤ n ∧ n - k ≤ m ∧ i = .int .i64 k ∧ u = I (mxd l k) ∧ v = I (dsum (l.take k)) ∧ Below w.heap.size w wr)
  case atStart => exact ⟨0, Nat.zero_le _, by omega, rfl, rfl, rfl, HB1.out⟩
  case round =>
    obtain ⟨k, hk, hkm, rfl, rfl, rfl, hnx⟩ := hrel
    have HNX := Lib.hid hnx
    have hsz := hnx.size
    clear hnx
    by_cases hlt : k < n
    · obtain ⟨b, off, rfl, hb, hc⟩ := H.out.dat (by omega)
      have hkl : k < l.length := by rw [HL.out]; exact hlt
      have hc0 : wr.cell? ⟨b, off + k * 2, none⟩ = some (I (ky l k)) := (HNX.out.cell (by exact hb)).trans (hc k hlt).1
      have hc1 : wr.cell? ⟨b, off + k * 2 + 1, none⟩ = some (I (dp l k)) := (HNX.out.cell (by exact hb)).trans (hc k hlt).2
      have hbd := dsum_bd HD.out k (by omega)
      have hd := HD.out k
      have HS := Lib.hid (dsum_take l k hkl)
      have HM := Lib.hid (show mxd l (k + 1) = max (mxd l k) (dp l k) from rfl)
      have hbw : b < wr.heap.size := by omega
      clear hc
      generalize dsum (l.take k) = S at *
      generalize mxd l k = x at *
      generalize ky l k = kk at *
      generalize dp l k = dd at *
      have h1 := hbd.1
      have h2 := hbd.2
      have h3 := hd.1
      have h4 := hd.2
      clear hbd hd
      go_wp2
      all_goals go_roundg (gk - 1)
      all_goals first
        | omega
        | exact ⟨k + 1, by omega, by omega, by go_num, by rw [HM.out]; congr 1; omega, by rw [HS.out], HNX.out.alloc hsz _⟩
    · obtain rfl : n = k := by omega
      have HS := Lib.hid (show l.take n = l from List.take_of_length_le (by rw [HL.out]; omega))
      rw [HS.out, HMX.out]
      go_wp2
      go_ret3
      exact ⟨rfl, HNX.out⟩

end Go.Proofs.YtpnjnedfcdppaaaGreatDoor

/-
  The desk: keys, path, rows, tree, order, deep.
-/
namespace Go.Proofs.YtpnjnedfcdppaaaGreatDoor
open Go.RowKit

/-- a desk at work: its pairs are those of its ops -/
structure DK (w : World) (kb : Nat) (ops : List OP) : Prop where
  db : DB w kb (runR ops).1 ops
  ld : LD w
  kb : 6 ≤ kb
  len : ops.length ≤ 300
  bd : OB2 ops
theorem DK.below {w w' : World} {kb : Nat} {ops : List OP} (h : DK w kb ops) (hb : Below w.heap.size w w') : DK w' kb ops := ⟨h.db.below hb, h.ld.next hb, h.kb, h.len, h.bd⟩
theorem DB.pairs {w : World} {kb : Nat} {l : PL} {ops : List OP} (h : DB w kb l ops) : ∃ pA pn pc, w.cell? ⟨kb, 0, none⟩ = some (.slice pA pn pc) ∧ PS w pA pn pc l ∧ kb < w.heap.size := by
  have hlt := h.lt
  obtain ⟨pA, pn, pc, ov, h1, h2, _, _⟩ := h
  exact ⟨pA, pn, pc, by simp [World.cell?, h1], h2.ps, hlt⟩
theorem DB.opsAt {w : World} {kb : Nat} {l : PL} {ops : List OP} (h : DB w kb l ops) : ∃ oA oc, w.cell? ⟨kb, 1, none⟩ = some (.slice oA ops.length oc) ∧ OS w oA ops.length oc ops := by
  obtain ⟨pA, pn, pc, ov, h1, _, _, h4⟩ := h
  obtain ⟨oA, oc, rfl, hos⟩ := OwnO.os h4
  exact ⟨oA, oc, by simp [World.cell?, h1], hos⟩
set_option maxRecDepth 100000 in
set_option maxHeartbeats 4000000 in
theorem keys_dany (kb : Nat) (l : PL) (ops : List OP) (w : World) (h : DB w kb l ops) (hc : chk l = 0) :
    Calls Tryz.prog 161 #[.pointer (some ⟨kb, 0, none⟩)] w (RetI (kys l) w) := by
  obtain ⟨A, n, c, h0, hps, hlt⟩ := h.pairs
  have hn : n ≤ 200 := by have := chk_len hc; rw [hps.len] at this; exact this
  have H := Lib.hid hps
  have HL := Lib.hid hps.len
  have HLT := Lib.hid hlt
  have H0 := Lib.hid h0
  have hmk := fun w => run_makeI (P := Tryz.prog) 46 3 Tryz.underlying46 int_info n n (Nat.le_refl _) (by omega) w
  have h0' : ∀ o, (w.alloc o).cell? ⟨kb, 0, none⟩ = some (.slice A n c) := fun o => (World.cell?_of_block (Below.heap_alloc _ _ _ hlt)).trans h0
  clear hps hlt h hc
  go_enter Tryz.func161, Tryz.ntmps161
  go_wp2
  go_loopw [17] (fun iv wr => ∃ k : Nat, k ≤ n ∧ iv = .int .i64 k ∧ Hid (IB wr w.heap.size 3 (kysTo l k)) ∧ Hid (Below w.heap.size w wr)) (fun iv _ => n - (intOf iv).toNat)
  case atStart =>
    refine ⟨0, Nat.zero_le _, rfl, ?_, (Below.refl _ _).alloc (Nat.le_refl _) _⟩
    have e : kysTo l 0 = List.replicate n 0 := by unfold kysTo; rw [HL.out]; simp
    rw [e]
    have := IB.new w 3 (List.replicate n 0)
    show IB _ _ _ _
    simpa using this
  case round =>
    obtain ⟨k, hk, rfl, HT, HB⟩ := hrel
    by_cases hkn : k < n
    · obtain ⟨b, off, rfl, hb, hc⟩ := H.out.at_ (by omega)
      have hkl : k < l.length := by rw [HL.out]; exact hkn
      obtain ⟨c0', c1'⟩ := hc k hkn
      have c0 : wr.cell? ⟨b, off + k * 2, none⟩ = some (I l[k].1) := (HB.out.cell (p := ⟨b, _, none⟩) hb).trans c0'
      have c1 : wr.cell? ⟨b, off + k * 2 + 1, none⟩ = some (I l[k].2) := (HB.out.cell (p := ⟨b, off + (k * 2 + 1), none⟩) hb).trans c1'
      have HN := Lib.hid (kysTo_set l k hkl)
      have hgl : w.heap.size < wr.heap.size := HT.out.lt
      obtain ⟨x, hx⟩ : ∃ x, l[k].1 = x := ⟨_, rfl⟩
      obtain ⟨y, hy⟩ : ∃ y, l[k].2 = y := ⟨_, rfl⟩
      rw [hx] at c0 HN
      rw [hy] at c1
      have hkt : k < (kysTo l k).length := by rw [kysTo_len l k (by omega)]; exact hkl
      have hcell : ∀ o, (wr.alloc o).cell? ⟨w.heap.size, k, none⟩ = some (I (kysTo l k)[k]) := fun o => by
        rw [World.cell?_of_block (Below.heap_alloc _ _ _ hgl), HT.out.cell, List.getElem?_eq_getElem hkt]
        rfl
      have hfz : ∀ o, (wr.alloc o).frozen? ⟨w.heap.size, k, none⟩ = false := fun o => by
        rw [World.frozen?_of_block (Below.heap_alloc _ _ _ hgl)]
        exact HT.out.frozen k
      have HT2 : Hid (∀ o, IB ((wr.alloc o).setCell ⟨w.heap.size, k, none⟩ (I x)) w.heap.size 3 (kysTo l (k + 1))) := fun o => by
        rw [← HN.out]
        exact (HT.out.below ((Below.refl _ _).alloc (Nat.le_refl _) o) hgl).set _ _
      have HT3 : Hid (∀ o, IB ((wr.setCell ⟨w.heap.size, k, none⟩ (I x)).alloc o) w.heap.size 3 (kysTo l (k + 1))) := fun o => by
        rw [← HN.out]
        have h1 := HT.out.set k x
        exact h1.below ((Below.refl _ _).alloc (Nat.le_refl _) o) h1.lt
      clear hc hx hy hgl c0' c1'
      go_wp2
      go_roundw
      case rel =>
        refine ⟨k + 1, by omega, by go_num, ?_, ?_⟩
        · first | exact HT3.out _ | exact HT2.out _
        · first
            | exact (HB.out.setCell (p := ⟨w.heap.size, k, none⟩) (Nat.le_refl _) _).alloc (by show _ ≤ (wr.setCell _ _).heap.size; simp [World.setCell]; exact HB.out.size) _
            | exact (HB.out.alloc HB.out.size _).setCell (p := ⟨w.heap.size, k, none⟩) (Nat.le_refl _) _
      case measure => simp [intOf]; omega
    · obtain rfl : n = k := by omega
      have ht := HT.out
      have e : kysTo l n = kys l := by rw [← HL.out]; exact kysTo_all l
      rw [e] at ht
      have HT2 := Lib.hid ht
      have HKL : Hid ((kys l).length = n) := by show _ = _; rw [kys_len]; exact HL.out
      clear ht
      go_wp2
      go_ret
      refine ⟨some ⟨w.heap.size, 0, none⟩, n, by rw [HKL.out]; exact rfl, ?_, HB.out⟩
      exact HT2.out.is_ (by rw [HKL.out]; exact Nat.le_refl _)
end Go.Proofs.YtpnjnedfcdppaaaGreatDoor

/-
  The desk: path, rows.
-/
namespace Go.Proofs.YtpnjnedfcdppaaaGreatDoor
open Go.RowKit

/-- a row of numbers while it is filled -/
def nfl (l : List Int) (k : Nat) : List Int := l.take k ++ List.replicate (l.length - k) 0
theorem nfl_len (l : List Int) {k : Nat} (h : k ≤ l.length) : (nfl l k).length = l.length := by simp [nfl]; omega
theorem nfl_set (l : List Int) (k : Nat) (h : k < l.length) : (nfl l k).set k l[k] = nfl l (k + 1) := by
  unfold nfl
  have h1 : (l.take k).length = k := by simp; omega
  rw [List.set_append_right _ _ (by omega), h1, Nat.sub_self, List.take_succ_eq_append_getElem h, show l.length - k = l.length - (k + 1) + 1 by omega, List.replicate_succ, List.append_assoc]
  rfl
theorem nfl_all (l : List Int) : nfl l l.length = l := by simp [nfl]
def RetTx (t : List UInt8) (w : World) (e : Ending) (w' : World) : Prop := e = .returned (.string (bsv t)) ∧ Below w.heap.size w w'
def RetEx (er : Int) (w : World) (e : Ending) (w' : World) : Prop := e = .panicked (slipC er) ∧ Below w.heap.size w w'
theorem stops_mem {l : List Int} (hR : Rise l) (key : Int) : ∀ s ∈ stops l key, s.2 ∈ l := fun s hs => ((stops_pin hR key).each s hs).2.1
theorem kys_bd {ops : List OP} : ∀ x ∈ kys (runR ops).1, 0 ≤ x ∧ x < 1000000000000000000 := fun x hx => by
  have := (rise_kys (chk_runR ops)).bd x hx
  omega
set_option maxRecDepth 100000 in
set_option maxHeartbeats 4000000 in
theorem path_ok (kb : Nat) (ops : List OP) (key : Int) (w : World) (h : DK w kb ops) (hk : kyB key = true) :
    Calls Tryz.prog 95 #[.pointer (some ⟨kb, 0, none⟩), I key] w (RetTx (orN (jnd ((stops (kys (runR ops).1) key).map Prod.snd))) w) := by
  have HK := Lib.hid (keys_dany kb _ ops w h.db (chk_runR ops))
  have HD := Lib.hid h
  have hR := rise_kys (chk_runR ops)
  obtain ⟨L, hL⟩ : ∃ L, kys (runR ops).1 = L := ⟨_, rfl⟩
  have hbd := kys_bd (ops := ops)
  rw [hL] at HK hR hbd ⊢
  have HR := Lib.hid hR
  obtain ⟨P, hP⟩ : ∃ P, stops L key = P := ⟨_, rfl⟩
  have hmem := stops_mem hR key
  have hPL := stTo_len L key 12
  have HPO := fun A n c w' (hI : IS w' A n c L) (hT : Tb w') => Path_ok A n c L key w' hI hR hk hT
  rw [hP] at hmem ⊢ HPO
  have hPl : P.length ≤ 2400 := by rw [← hP]; have h1 : (stops L key).length ≤ 12 * L.length := hPL; have := hR.len; omega
  have HPB : Hid (∀ x ∈ P.map Prod.snd, 0 ≤ x ∧ x < 1000000000000000000) := fun x hx => by
    obtain ⟨s, hs, rfl⟩ := List.mem_map.mp hx
    exact hbd _ (hmem s hs)
  have HPP := Lib.hid HPO
  have HML : Hid ((P.map Prod.snd).length = P.length) := List.length_map _
  clear hL hP hmem hPL hbd hR HPO h hk
  go_enter Tryz.func95, Tryz.ntmps95
  go_wp2_with fail
  refine HK.out.mono ?_
  rintro e w1 ⟨A1, c1, rfl, hI1, hb1⟩
  have HD1 := Lib.hid (HD.out.below hb1)
  have HP1 := Lib.hid (HPP.out A1 _ c1 w1 hI1 HD1.out.ld.tb)
  have HB1 := Lib.hid hb1
  clear hb1 hI1
  go_wp2_with fail
  refine HP1.out.mono ?_
  rintro e w2 ⟨A2, c2, rfl, hps, hb2⟩
  have HD2 := Lib.hid (HD1.out.below hb2)
  have HPS := Lib.hid hps
  have HB2 := Lib.hid (HB1.out.trans (hb2.mono HB1.out.size))
  clear hps hb2
  go_wp2_with fail
  refine (must_ok w2).mono ?_
  rintro e x ⟨rfl, hx⟩
  subst hx
  obtain ⟨n, hn⟩ : ∃ n, P.length = n := ⟨_, rfl⟩
  have HN := Lib.hid hn
  rw [hn] at hPl
  have hPS := HPS.out
  rw [hn] at hPS
  have HPT := Lib.hid hPS
  have hmk := fun w => run_makeI (P := Tryz.prog) 46 3 Tryz.underlying46 int_info n n (Nat.le_refl _) (by omega) w
  have HMN : Hid ((P.map Prod.snd).length = n) := by show _ = _; rw [HML.out, hn]
  rw [hn]
  clear hPS hn HPS
  go_wp2
  go_loopw [24] (fun iv wr => ∃ k : Nat, k ≤ n ∧ iv = .int .i64 k ∧ Hid (IB wr w2.heap.size 3 (nfl (P.map Prod.snd) k)) ∧ Hid (Below w2.heap.size w2 wr)) (fun iv _ => n - (intOf iv).toNat)
  case atStart =>
    refine ⟨0, Nat.zero_le _, rfl, ?_, (Below.refl _ _).alloc (Nat.le_refl _) _⟩
    have e : nfl (P.map Prod.snd) 0 = List.replicate n 0 := by unfold nfl; rw [HMN.out]; simp
    rw [e]
    have := IB.new w2 3 (List.replicate n 0)
    show IB _ _ _ _
    simpa using this
  case round =>
    obtain ⟨k, hk, rfl, HT, HB⟩ := hrel
    by_cases hkn : k < n
    · obtain ⟨b, off, rfl, hb, hc⟩ := HPT.out.at_ (by omega)
      have hkl : k < (P.map Prod.snd).length := by rw [HMN.out]; exact hkn
      obtain ⟨c0', c1'⟩ := hc k hkn
      have hkp : k < P.length := by rw [HN.out]; exact hkn
      have c0 : wr.cell? ⟨b, off + k * 2, none⟩ = some (I P[k].1) := (HB.out.cell (p := ⟨b, _, none⟩) hb).trans c0'
      have c1 : wr.cell? ⟨b, off + k * 2 + 1, none⟩ = some (I P[k].2) := (HB.out.cell (p := ⟨b, off + (k * 2 + 1), none⟩) hb).trans c1'
      have hset := nfl_set (P.map Prod.snd) k hkl
      rw [List.getElem_map] at hset
      have HN2 := Lib.hid hset
      have hgl : w2.heap.size < wr.heap.size := HT.out.lt
      obtain ⟨x, hx⟩ : ∃ x, P[k].1 = x := ⟨_, rfl⟩
      obtain ⟨y, hy⟩ : ∃ y, P[k].2 = y := ⟨_, rfl⟩
      rw [hx] at c0
      rw [hy] at c1 HN2
      have hkt : k < (nfl (P.map Prod.snd) k).length := by rw [nfl_len _ (by omega)]; exact hkl
      have hcell : ∀ o, (wr.alloc o).cell? ⟨w2.heap.size, k, none⟩ = some (I (nfl (P.map Prod.snd) k)[k]) := fun o => by
        rw [World.cell?_of_block (Below.heap_alloc _ _ _ hgl), HT.out.cell, List.getElem?_eq_getElem hkt]
        rfl
      have hfz : ∀ o, (wr.alloc o).frozen? ⟨w2.heap.size, k, none⟩ = false := fun o => by
        rw [World.frozen?_of_block (Below.heap_alloc _ _ _ hgl)]
        exact HT.out.frozen k
      have HT3 : Hid (∀ o, IB ((wr.alloc o).setCell ⟨w2.heap.size, k, none⟩ (I y)) w2.heap.size 3 (nfl (P.map Prod.snd) (k + 1))) := fun o => by
        rw [← HN2.out]
        exact (HT.out.below ((Below.refl _ _).alloc (Nat.le_refl _) o) hgl).set _ _
      clear hc hx hy hgl c0' c1' hset
      go_wp2
      go_roundw
      case rel =>
        refine ⟨k + 1, by omega, by go_num, ?_, ?_⟩
        · exact HT3.out _
        · exact (HB.out.alloc HB.out.size _).setCell (p := ⟨w2.heap.size, k, none⟩) (Nat.le_refl _) _
      case measure => simp [intOf]; omega
    · obtain rfl : n = k := by omega
      have ht := HT.out
      have e : nfl (P.map Prod.snd) n = P.map Prod.snd := by rw [← HMN.out]; exact nfl_all _
      rw [e] at ht
      have hI := ht.is_ (c := n) (by rw [HMN.out]; exact Nat.le_refl _)
      rw [HMN.out] at hI
      have HJ := Lib.hid (joined_any _ n n (P.map Prod.snd) wr hI (by omega) HPB.out (HD2.out.ld.next HB.out))
      have HB3 := Lib.hid (HB2.out.trans (HB.out.mono HB2.out.size))
      clear ht hI
      go_wp2_with fail
      refine HJ.out.mono ?_
      rintro e w4 ⟨rfl, hb4⟩
      have HB4 := Lib.hid (HB3.out.trans (hb4.mono HB3.out.size))
      have HO := Lib.hid (orNone_any (jnd (P.map Prod.snd)) w4)
      clear hb4
      go_wp2_with fail
      refine HO.out.mono ?_
      rintro e w5 ⟨rfl, hw5⟩
      subst hw5
      go_wp2
      go_ret
      exact ⟨rfl, HB4.out⟩
set_option maxRecDepth 100000 in
set_option maxHeartbeats 4000000 in
theorem path_bad (kb : Nat) (ops : List OP) (key : Int) (w : World) (h : DK w kb ops) (hk : kyB key = false) :
    Calls Tryz.prog 95 #[.pointer (some ⟨kb, 0, none⟩), I key] w (RetEx 1 w) := by
  have HK := Lib.hid (keys_dany kb _ ops w h.db (chk_runR ops))
  have HR := Lib.hid (rise_kys (chk_runR ops))
  have HKB := Lib.hid hk
  clear h hk
  go_enter Tryz.func95, Tryz.ntmps95
  go_wp2_with fail
  refine HK.out.mono ?_
  rintro e w1 ⟨A1, c1, rfl, hI1, hb1⟩
  have HP1 := Lib.hid (Path_arg A1 _ c1 _ key w1 hI1 HR.out HKB.out)
  have HB1 := Lib.hid hb1
  clear hb1 hI1
  go_wp2_with fail
  refine HP1.out.mono ?_
  rintro e w2 ⟨rfl, hb2⟩
  have HB2 := Lib.hid (HB1.out.trans (hb2.mono HB1.out.size))
  clear hb2
  go_wp2_with fail
  refine (must_bad 1 (by decide) w2).mono ?_
  rintro e x ⟨rfl, hx⟩
  subst hx
  go_wp2
  exact ⟨rfl, rfl, HB2.out⟩
end Go.Proofs.YtpnjnedfcdppaaaGreatDoor
