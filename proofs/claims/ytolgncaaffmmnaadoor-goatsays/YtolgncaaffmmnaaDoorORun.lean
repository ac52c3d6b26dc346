/-
  package goat: Run.
-/
import Derived.Test.YtolgncaaffmmnaaDoorRunAAll
namespace Go.Proofs.YtolgncaaffmmnaaDoor
open Go.RowKit

theorem results_tmp4 {fn : Func} {t u v x : Tmp} (h : fn.results = #[.tmp t, .tmp u, .tmp v, .tmp x]) (tmps : Array Value) (P : Program) (w : World) :
    (results fn tmps).run P w = .ok (.tuple #[tmps.getD t undef, tmps.getD u undef, tmps.getD v undef, tmps.getD x undef]) w := by
  simp [results, h]
theorem oerr_ne {E : Int} (h : E ≠ 0) : (E != 0) = true := by simpa using h
/-- no more came and went than there are ops -/
theorem cn_le (ops : List OP) : (goN ops).came + (goN ops).went ≤ ops.length := by
  have h : ∀ (ops : List OP) (s : GS) (c : Cn) (l : PL), (ops.foldl (fun s o => (goR s.1 o (doA s.2.2 o.1 o.2.1), cnR s.2.1 o (doA s.2.2 o.1 o.2.1), doL s.2.2 o.1 o.2.1 o.2.2)) (s, c, l)).2.1.came + (ops.foldl (fun s o => (goR s.1 o (doA s.2.2 o.1 o.2.1), cnR s.2.1 o (doA s.2.2 o.1 o.2.1), doL s.2.2 o.1 o.2.1 o.2.2)) (s, c, l)).2.1.went ≤ c.came + c.went + ops.length := by
    intro ops
    induction ops with
    | nil => intro s c l; exact Nat.le_refl _
    | cons o ops ih =>
      intro s c l
      have h1 := ih (goR s o (doA l o.1 o.2.1)) (cnR c o (doA l o.1 o.2.1)) (doL l o.1 o.2.1 o.2.2)
      have h2 : (cnR c o (doA l o.1 o.2.1)).came + (cnR c o (doA l o.1 o.2.1)).went ≤ c.came + c.went + 1 := by
        unfold cnR
        split
        · omega
        · split
          · show c.came + 1 + c.went ≤ _; omega
          · split
            · show c.came + (c.went + 1) ≤ _; omega
            · show c.came + c.went ≤ _; omega
      rw [List.length_cons]
      refine Nat.le_trans h1 ?_
      omega
  have := h ops ⟨.nil, 0, 0⟩ ⟨0, 0, 0, 0⟩ []
  show (goL ops).2.1.came + (goL ops).2.1.went ≤ _
  unfold goL
  simpa using this
structure GB (s : GS) : Prop where
  up : Up s.t.ks
  size : s.t.size ≤ 200
  most : s.most ≤ 200
  built : s.built ≤ 27000
theorem go_bounds (ops : List OP) (h : ops.length ≤ 300) : GB (goT ops) := by
  have hi := go_inv ops
  have h1 := hi.inv.size
  have h2 := hi.inv.most
  have h3 := hi.inv.cap
  refine ⟨hi.inv.up, by omega, by omega, ?_⟩
  have h4 := go_work ops
  have h5 := cn_le ops
  have h6 : dpst (goN ops).top ≤ 13 := by
    have := dpst_mono (show (goN ops).top ≤ 200 from h3)
    rw [dpst_200] at this
    exact this
  have h7 : ((goN ops).came + (goN ops).went) * (dpst (goN ops).top + 2) ≤ 300 * 15 := Nat.mul_le_mul (by omega) (by omega)
  omega
theorem same_room {t : Tr} {l : PL} (h : Same t l) (key val : Int) (he : (doA l 1 key).e = 0) (hb : (doA l 1 key).b = false) : key ∉ t.ks ∧ t.size + 1 ≤ 200 := by
  rcases h.ways 1 key val with ⟨_, e2⟩ | ⟨_, _, e3, _⟩ | ⟨_, _, _, e4, e5⟩ | ⟨_, e2, _⟩ | ⟨_, e2, _⟩ | ⟨e1, _⟩
  · exact absurd he e2
  · rw [hb] at e3; cases e3
  · refine ⟨e4, ?_⟩
    have h1 : (pk (doL l 1 key val)).length = t.size + 1 := by rw [e5, ks_length, size_ins e4]
    have h2 := ((chk_zero _).1 (chk_doL h.chk 1 key val)).1
    simp only [pk, List.length_map] at h1
    omega
  · omega
  · omega
  · exact absurd rfl e1

/-- spots, how many were built, answers and an error -/
def RetO (L : PL) (n b : Nat) (a : List An) (er : Int) (w : World) (e : Ending) (w' : World) : Prop :=
  ∃ A c A' n' c', e = .returned (.tuple #[.slice A n c, I b, .slice A' n' c', I er]) ∧ PS w' A n c L ∧ AS w' A' n' c' a ∧ Below w.heap.size w w'

set_option maxHeartbeats 1000000 in
theorem ORun_large (A : Option Addr) (n c : Nat) (w : World) (hn : 300 < n) (hm : n ≤ 9223372036854775807) :
    Calls Tryd.prog 10 #[.slice A n c] w (RetO [] 0 0 [] 2 w) := by
  have HR := Lib.hid (Run_large A n c w hn hm)
  go_enter Tryd.func10, Tryd.ntmps10
  go_wp2_with fail
  refine HR.out.mono ?_
  rintro e w1 ⟨A1, n1, c1, A2, n2, c2, rfl, _, _, hb⟩
  have HB := Lib.hid hb
  clear hb
  go_wp2
  (try simp only [Exit.inBlock, Exit.then])
  refine bodyPost_ret (results_tmp4 rfl _ _ _) rfl ?_
  exact ⟨none, 0, none, 0, 0, rfl, ⟨rfl, Rd.none_⟩, ⟨rfl, Rd.none_⟩, HB.out⟩

theorem GT.below {w w' : World} {T : Nat} {s : GS} (h : GT w T s) (hb : Below w.heap.size w w') : GT w' T s := by
  obtain ⟨v, h1, h2⟩ := h
  exact ⟨v, h1.below hb h1.lt, ownR_below h2 hb⟩
theorem below_up {w w' : World} {T : Nat} (h : Below T w w') : ∀ {v : World}, Below T v w → Below T v w' := fun h' => h'.trans h

set_option maxRecDepth 100000 in
set_option maxHeartbeats 8000000 in
theorem ORun_any (A : Option Addr) (n c m : Nat) (ops : List OP) (w : World) (h : OS w A n c ops) (hn : n ≤ 300) (hm : (goT ops).t.size = m) :
    Calls Tryd.prog 10 #[.slice A n c] w (RetO ((goT ops).t.sp 0) m (goT ops).built (runR ops).2 0 w) := by
  have HR := Lib.hid (Run_any A n c ops w h hn)
  have H := Lib.hid h
  have HL := Lib.hid h.len
  have HM := Lib.hid hm
  clear h hm
  go_enter Tryd.func10, Tryd.ntmps10
  go_wp2_with fail
  refine HR.out.mono ?_
  rintro e w1 ⟨A1, n1, c1, A2, n2, c2, rfl, _, has, hb1⟩
  have H1 := Lib.hid (H.out.below hb1)
  have HA := Lib.hid has
  have HB1 := Lib.hid hb1
  have hn2 : n2 = n := by have := has.len; rw [runR_len, HL.out] at this; exact this.symm
  subst hn2
  clear has hb1 HR
  go_wp2
  go_loopg [24] n2 (fun m i wr => ∃ k : Nat, k ≤ n2 ∧ n2 - k ≤ m ∧ i = .int .i64 k ∧ Below w1.heap.size w1 wr ∧ GT wr w1.heap.size (goT (ops.take k)))
  case atStart =>
    refine ⟨0, Nat.zero_le _, by omega, rfl, (Below.refl _ _).alloc (Nat.le_refl _) _, .slice none 0 0, ?_, World.ownsRow_nil _ _ _ _⟩
    exact heap_alloc_new w1 _
  case round =>
    obtain ⟨k, hk, hkm, rfl, hnx, hG⟩ := hrel
    have HNX := Lib.hid hnx
    have HG := Lib.hid hG
    have hsz := hnx.size
    clear hnx hG
    by_cases hlt : k < n2
    · obtain ⟨b, off, rfl, hb, hc⟩ := H1.out.at_ (by omega)
      obtain ⟨ba, offa, rfl, hba, hca⟩ := HA.out.at_ (by omega)
      have hkl : k < ops.length := by rw [HL.out]; exact hlt
      have hc0 : wr.cell? ⟨b, off + k * 3, none⟩ = some (I ops[k].1) := (HNX.out.cell (by exact hb)).trans (hc k hlt).1
      have hc1 : wr.cell? ⟨b, off + k * 3 + 1, none⟩ = some (I ops[k].2.1) := (HNX.out.cell (by exact hb)).trans (hc k hlt).2.1
      have hc2 : wr.cell? ⟨b, off + k * 3 + 2, none⟩ = some (I ops[k].2.2) := (HNX.out.cell (by exact hb)).trans (hc k hlt).2.2
      have hans := runR_ans ops k hkl
      have hcak := hca k hlt
      rw [hans] at hcak
      have hst := (goL_succ ops k hkl).1
      have hgb := go_bounds (ops.take k) (by rw [List.length_take]; omega)
      have hji := (go_inv (ops.take k)).same
      have hroom := fun (key : Int) => same_room hji key
      have hways := hji.ways ops[k].1 ops[k].2.1 ops[k].2.2
      generalize hs : goT (ops.take k) = s at *
      have hroom2 : (doA (runR (ops.take k)).1 ops[k].1 ops[k].2.1).e = 0 → ops[k].1 = 1 → (doA (runR (ops.take k)).1 ops[k].1 ops[k].2.1).b = false → s.t.size + 1 ≤ 200 := fun e1 e2 e3 => by
        rw [e2] at e1 e3
        exact (hroom _ ops[k].2.2 e1 e3).2
      generalize doA (runR (ops.take k)).1 ops[k].1 ops[k].2.1 = a at hcak hways hst hroom2
      generalize ops[k] = o at hc0 hc1 hc2 hways hst hroom2
      obtain ⟨kind, key, val⟩ := o
      simp only at hc0 hc1 hc2 hways hroom2
      have ha0 : wr.cell? ⟨ba, offa + k * 4, none⟩ = some (I a.e) := (HNX.out.cell (by exact hba)).trans hcak.1
      have ha1 : wr.cell? ⟨ba, offa + k * 4 + 1, none⟩ = some (I a.k) := (HNX.out.cell (by exact hba)).trans hcak.2.1
      have ha2 : wr.cell? ⟨ba, offa + k * 4 + 2, none⟩ = some (I a.v) := (HNX.out.cell (by exact hba)).trans hcak.2.2.1
      have ha3 : wr.cell? ⟨ba, offa + k * 4 + 3, none⟩ = some (.bool a.b) := (HNX.out.cell (by exact hba)).trans hcak.2.2.2
      have HST := Lib.hid hst
      have HGB := Lib.hid hgb
      have hbw : b < wr.heap.size := by omega
      have hbaw : ba < wr.heap.size := by omega
      have HG2 := Lib.hid (HG.out.below (((Below.refl _ _).alloc (Nat.le_refl _) (opO kind key val)).alloc (by simp) (anO a)))
      have HN2 := Lib.hid ((HNX.out.alloc hsz (opO kind key val)).alloc (by simp; omega) (anO a))
      clear hc hca hcak hans hst hgb hji hroom hs
      obtain ⟨ae, ak, av, ab⟩ := a
      simp only at ha0 ha1 ha2 ha3 hways hroom2
      rcases hways with ⟨_, e2⟩ | ⟨rfl, rfl, rfl, e4, _⟩ | ⟨rfl, rfl, rfl, e4, _⟩ | ⟨rfl, rfl, rfl, e4, _⟩ | ⟨rfl, rfl, rfl, e4, _⟩ | ⟨e1, e2, _⟩
      · -- refused
        have hne := oerr_ne e2
        have HS := Lib.hid (show goT (ops.take (k + 1)) = s by rw [HST.out]; simp [goR, e2])
        clear e2 HST hroom2
        go_wp2
        go_roundg (gk - 1)
        case measure => omega
        case rel => exact ⟨k + 1, by omega, by omega, by go_num, HN2.out, by rw [HS.out]; exact HG2.out⟩
      · -- put: it was there
        have HS := Lib.hid (show goT (ops.take (k + 1)) = s by rw [HST.out]; simp [goR])
        clear e4 HST hroom2
        go_wp2
        go_roundg (gk - 1)
        case measure => omega
        case rel => exact ⟨k + 1, by omega, by omega, by go_num, HN2.out, by rw [HS.out]; exact HG2.out⟩
      · -- put: it comes
        have HS := Lib.hid (show goT (ops.take (k + 1)) = goP s key by rw [HST.out]; simp [goR])
        have HC := Lib.hid (come_any w1.heap.size s key _ HG2.out HGB.out.up e4 (hroom2 rfl rfl rfl) HGB.out.most (by have := HGB.out.built; omega))
        clear e4 HST hroom2
        go_wp2_with fail
        refine HC.out.mono ?_
        rintro e w2 ⟨rfl, hg2, hb2⟩
        have HG3 := Lib.hid hg2
        have HN3 := Lib.hid (HN2.out.trans hb2)
        clear hg2 hb2
        go_wp2
        go_roundg (gk - 1)
        case measure => omega
        case rel => exact ⟨k + 1, by omega, by omega, by go_num, HN3.out, by rw [HS.out]; exact HG3.out⟩
      · -- taken away
        have HS := Lib.hid (show goT (ops.take (k + 1)) = goC s key by rw [HST.out]; simp [goR])
        have HC := Lib.hid (leave_any w1.heap.size s key _ HG2.out HGB.out.up e4 HGB.out.size HGB.out.most (by have := HGB.out.built; omega))
        clear e4 HST hroom2
        go_wp2_with fail
        refine HC.out.mono ?_
        rintro e w2 ⟨rfl, hg2, hb2⟩
        have HG3 := Lib.hid hg2
        have HN3 := Lib.hid (HN2.out.trans hb2)
        clear hg2 hb2
        go_wp2
        go_roundg (gk - 1)
        case measure => omega
        case rel => exact ⟨k + 1, by omega, by omega, by go_num, HN3.out, by rw [HS.out]; exact HG3.out⟩
      · -- taken away: it was not there
        have HS := Lib.hid (show goT (ops.take (k + 1)) = s by rw [HST.out]; simp [goR])
        clear e4 HST hroom2
        go_wp2
        go_roundg (gk - 1)
        case measure => omega
        case rel => exact ⟨k + 1, by omega, by omega, by go_num, HN2.out, by rw [HS.out]; exact HG2.out⟩
      · by_cases hae : ae = 0
        · subst hae
          have HS := Lib.hid (show goT (ops.take (k + 1)) = s by rw [HST.out]; simp [goR, e1, e2])
          have h1 : (kind == 1) = false := by simpa using e1
          have h3 : (kind == 3) = false := by simpa using e2
          clear e1 e2 HST hroom2
          go_wp2
          go_roundg (gk - 1)
          case measure => omega
          case rel => exact ⟨k + 1, by omega, by omega, by go_num, HN2.out, by rw [HS.out]; exact HG2.out⟩
        · have hne := oerr_ne hae
          have HS := Lib.hid (show goT (ops.take (k + 1)) = s by rw [HST.out]; simp [goR, hae])
          clear e1 e2 HST hae hroom2
          go_wp2
          go_roundg (gk - 1)
          case measure => omega
          case rel => exact ⟨k + 1, by omega, by omega, by go_num, HN2.out, by rw [HS.out]; exact HG2.out⟩
    · have htk : ops.take k = ops := List.take_of_length_le (by rw [HL.out]; omega)
      rw [htk] at HG
      obtain ⟨v, hv, ho⟩ := HG.out
      obtain ⟨A3, c3, rfl, _, hps⟩ := ownR_told ho (show ((goT ops).t.sp 0).length = m by rw [sp_length]; exact HM.out)
      obtain ⟨d0, d1, d2⟩ := hv.cells
      have hvl := hv.lt
      have HPS := Lib.hid hps
      have HAS := Lib.hid (HA.out.below HNX.out)
      have HBX := Lib.hid (below_next HB1.out HNX.out)
      clear hv ho hps
      go_wp2
      go_quiet (fail)
      go_wp2
      (try simp only [Exit.inBlock, Exit.then])
      refine bodyPost_ret (results_tmp4 rfl _ _ _) rfl ?_
      exact ⟨A3, c3, A2, n2, c2, rfl, HPS.out.drewN _, ⟨HAS.out.len, HAS.out.rd⟩, below_drewN HBX.out _⟩

end Go.Proofs.YtolgncaaffmmnaaDoor
