/-
  package vine: press.
-/
import Derived.Test.YtjonepkdkhhonaaVUp
namespace Go.Proofs.Ytjonepkdkhhonaa
open Go.RowKit

/-- the keys that come up when a tree is pressed -/
def prK : Nat → Tr → List Int
  | 0, _ => []
  | m + 1, .node _ _ (.node _ k' d) => k' :: prK m d
  | _ + 1, _ => []
theorem prK_length : ∀ (m : Nat) (t : Tr), 2 * m ≤ t.rsp → (prK m t).length = m
  | 0, _, _ => rfl
  | m + 1, .nil, h => by simp [Tr.rsp] at h
  | m + 1, .node a k .nil, h => by simp [Tr.rsp] at h; omega
  | m + 1, .node a k (.node c k' d), h => by
    show (prK m d).length + 1 = m + 1
    rw [prK_length m d (by simp [Tr.rsp] at h; omega)]
theorem prs_rsp : ∀ (m : Nat) (t : Tr), 2 * m ≤ t.rsp → (prs m t).rsp + m = t.rsp
  | 0, _, _ => rfl
  | m + 1, .nil, h => by simp [Tr.rsp] at h
  | m + 1, .node a k .nil, h => by simp [Tr.rsp] at h; omega
  | m + 1, .node a k (.node c k' d), h => by
    have := prs_rsp m d (by simp [Tr.rsp] at h; omega)
    show (prs m d).rsp + 1 + (m + 1) = d.rsp + 1 + 1
    omega
theorem prs_size (m : Nat) (t : Tr) : (prs m t).size = t.size := by rw [← ks_length, prs_ks, ks_length]
/-- what is left to be pressed -/
structure PI (m : Nat) (t : Tr) (L : PL) (V : List Int) (i : Nat) (s : Tr) (pre : PL) (d : Int) : Prop where
  tree : IsTree L
  eq : L = pre ++ s.sp d
  ctx : Ctx 0 d pre []
  to : pre ++ (prs (m - i) s).sp d = (prs m t).sp 0
  ups : prK m t = V ++ prK (m - i) s
  room : 2 * (m - i) ≤ s.rsp
  way : (wyR 0 t).drop (2 * i) = wyR pre.length s
theorem PI.first {m : Nat} {t : Tr} (h : IsTree (t.sp 0)) (hr : 2 * m ≤ t.rsp) : PI m t (t.sp 0) [] 0 t [] 0 := ⟨h, by simp, .hole, by simp, rfl, hr, rfl⟩
theorem PI.next {m : Nat} {t : Tr} {L : PL} {V : List Int} {i : Nat} {s : Tr} {pre : PL} {d : Int} (h : PI m t L V i s pre d) (hi : i < m) :
    ∃ (p : Nat) (k : Int) (s' : Tr) (pre' : PL), (wyR 0 t)[2 * i + 1]? = some (p : Int) ∧ p < L.length ∧ dp L p ≠ 0 ∧ ky L p = k ∧ PI m t (turnL L p) (V ++ [k]) (i + 1) s' pre' (d + 1) := by
  obtain ⟨x, hx⟩ : ∃ x, m - i = x + 1 := ⟨m - i - 1, by omega⟩
  have hx2 : m - (i + 1) = x := by omega
  have hroom := h.room
  have hway := h.way
  have hto := h.to
  have hups := h.ups
  rw [hx] at hroom hto hups
  match s, h.eq, hroom, hway, hto, hups with
  | .nil, _, hr, _, _, _ => simp [Tr.rsp] at hr
  | .node a k .nil, _, hr, _, _, _ => simp [Tr.rsp] at hr; omega
  | .node a k (.node c p e), heq, hr, hw, ht, hu =>
    have hl : RR L (pre.length + a.size) (pre.length + (a.size + 1 + c.size)) d a k c p e pre [] := ⟨h.ctx, by rw [heq]; simp, rfl, rfl⟩
    have hroot := hl.at_j.root
    have hlen := hl.at_j.len
    have hge := h.ctx.ge
    have hd : dp L (pre.length + (a.size + 1 + c.size)) ≠ 0 := by rw [hroot.1]; omega
    have hlt : pre.length + (a.size + 1 + c.size) < L.length := by rw [hlen]; simp [sp_length]; omega
    obtain ⟨_, _, htd⟩ := turned_of h.tree hlt hd
    have htn := hl.turn
    rw [List.append_nil] at htn
    have hpl : (pre ++ (Tr.node a k c).sp (d + 1) ++ [(p, d)]).length = pre.length + (a.size + 1 + c.size) + 1 := by simp [sp_length, Tr.size]; omega
    refine ⟨pre.length + (a.size + 1 + c.size), p, e, pre ++ (Tr.node a k c).sp (d + 1) ++ [(p, d)], ?_, hlt, hd, hroot.2, htd.tree, ?_, .right _ p h.ctx, ?_, ?_, ?_, ?_⟩
    · rw [← List.getElem?_drop, hw]
      simp [wyR]
      omega
    · rw [htn]; simp [Tr.sp]
    · rw [← ht, hx2]
      simp [prs, Tr.sp]
    · rw [hu, hx2]
      simp [prK]
    · rw [hx2]
      simp [Tr.rsp] at hr
      omega
    · rw [hpl, show 2 * (i + 1) = 2 * i + 2 by omega, ← List.drop_drop, hw]
      simp only [wyR, List.drop_succ_cons, List.drop_zero]
      congr 1
      omega
theorem PI.last {m : Nat} {t : Tr} {L : PL} {V : List Int} {s : Tr} {pre : PL} {d : Int} (h : PI m t L V m s pre d) : L = (prs m t).sp 0 ∧ V = prK m t := by
  have h1 := h.to
  have h2 := h.ups
  rw [Nat.sub_self] at h1 h2
  rw [show prs 0 s = s from by cases s <;> rfl, ← h.eq] at h1
  rw [show prK 0 s = [] from by cases s <;> rfl, List.append_nil] at h2
  exact ⟨h1, h2.symm⟩

set_option maxRecDepth 100000 in
set_option maxHeartbeats 2000000 in
theorem press_any (base q m : Nat) (A : Option Addr) (c : Nat) (u : Value) (t : Tr) (U : List Int) (w : World) (h : VT w base q A c u (t.sp 0) U) (hT : IsTree (t.sp 0)) (hm : 2 * m ≤ t.rsp) (hU : U.length ≤ 5000) :
    Calls Try.prog 27 #[.pointer (some ⟨q, 0, none⟩), I m] w (RetV base q u ((prs m t).sp 0) (U ++ prK m t) w) := by
  have hsz : t.size ≤ 200 := by rw [← sp_length t 0]; exact hT.1
  have hrz := rsp_le t
  have hm2 : m ≤ 100 := by omega
  obtain ⟨n, hn⟩ : ∃ n, (t.sp 0).length = n := ⟨_, rfl⟩
  have hn2 : n ≤ 200 := by rw [← hn, sp_length]; exact hsz
  have hblk := h.blk
  have hps := h.ps
  rw [hn] at hblk hps
  obtain ⟨hq0, -⟩ := hblk.cells
  have hlt := hblk.lt
  have HW := Lib.hid (wayRight_any A n c t w hps hn2)
  have HV := Lib.hid h
  have HM := Lib.hid hm
  have HT := Lib.hid hT
  have HLW := Lib.hid (wyR_length t 0)
  have HN := Lib.hid hn
  have hge := h.ge
  clear h hT hm hblk hps hsz hrz hn
  go_enter Try.func27, Try.ntmps27
  go_wp2_with fail
  refine HW.out.mono ?_
  rintro e w1 ⟨v, rfl, hown, hb1⟩
  obtain ⟨Aw, cw, rfl, his, hfw⟩ := hown.is_
  rw [HLW.out] at his ⊢
  have HV1 := Lib.hid (HV.out.below hb1)
  have HIS := Lib.hid his
  have HB1 := Lib.hid hb1
  have hz1 := hb1.size
  clear hown his hb1
  obtain ⟨N, hN⟩ : ∃ N, t.rsp = N := ⟨_, rfl⟩
  rw [hN] at HIS HM
  have HNN := Lib.hid hN
  rw [hN]
  clear hN
  have HAW : Hid (∀ ad, Aw = some ad → 0 < N → ad.block < w1.heap.size ∧ ad.block ≠ q ∧ u.ownBlock ≠ some ad.block) := fun ad ha h0 => by
    obtain ⟨b, off, e, hb, _⟩ := HIS.out.rd.2 h0
    have h1 := hfw ad ha
    rw [ha] at e
    cases e
    refine ⟨hb, ?_, fun h => ?_⟩
    · simp at h1 ⊢; omega
    · have := vown_lt HV.out.own _ h
      omega
  clear hfw
  have hbz := HB1.out.mono (show base ≤ w.heap.size by omega)
  have HBZ := Lib.hid hbz
  clear hbz
  go_wp2
  go_loopg [12] m (fun k i wr => ∃ (j : Nat) (s : Tr) (pre L : PL) (V : List Int) (d : Int) (A' : Option Addr) (c' : Nat) (u' : Value), i = .int .i64 j ∧ j ≤ m ∧ m - j ≤ k ∧ V.length = j ∧ PI m t L V j s pre d ∧ VT wr base q A' c' u' L (U ++ V) ∧ Kp w1 wr q u u' ∧ Below base w1 wr)
  case atStart => exact ⟨0, t, [], t.sp 0, [], 0, A, c, u, rfl, Nat.zero_le _, by omega, rfl, PI.first HT.out (by rw [HNN.out]; exact HM.out), by rw [List.append_nil]; exact HV1.out, fun g hg _ hu => ⟨rfl, hu⟩, Below.refl _ _⟩
  case round =>
    obtain ⟨j, s, pre, L, V, d, A', c', u', rfl, hj, hjk, hV, hpi, hvt, hkp, hb⟩ := hrel
    have HPI := Lib.hid hpi
    have HVT := Lib.hid hvt
    have HKP := Lib.hid hkp
    have HB := Lib.hid hb
    have hz := hb.size
    have HVL := Lib.hid hV
    clear hpi hvt hkp hb hV
    by_cases hlt2 : j < m
    · obtain ⟨p, x, s', pre', hway, hpl, hd, hky, hpi'⟩ := HPI.out.next hlt2
      have hN0 : 2 * j + 1 < N := by have := HM.out; omega
      obtain ⟨b, off, rfl, hbw, hcs⟩ := HIS.out.at_ (show 0 < N by omega)
      have hk := HAW.out _ rfl (by omega)
      have hcw : wr.cell? ⟨b, off + (2 * j + 1), none⟩ = some (I p) := by
        have h1 := (HKP.out b hk.1 hk.2.1 hk.2.2).1
        have h2 : wr.cell? ⟨b, off + (2 * j + 1), none⟩ = w1.cell? ⟨b, off + (2 * j + 1), none⟩ := World.cell?_of_block (w := w1) h1
        rw [h2, hcs (2 * j + 1) hN0]
        rw [List.getElem?_eq_getElem (by rw [HLW.out, HNN.out]; exact hN0)] at hway
        rw [Option.some.inj hway]
      have HD := Lib.hid hd
      have HKY := Lib.hid hky
      have HPL := Lib.hid hpl
      have HP2 := Lib.hid hpi'
      have e1 : IntKind.i64.wrap (2 * (j : Int)) = 2 * j := IntWalk.i64_in _ (by omega)
      have e2 : IntKind.i64.wrap (2 * (j : Int) + 1) = 2 * j + 1 := IntWalk.i64_in _ (by omega)
      have e3 : (2 * (j : Int) + 1).toNat = 2 * j + 1 := by omega
      have e4 : 0 ≤ 2 * (j : Int) + 1 := by omega
      have e5 : 2 * (j : Int) + 1 < N := by omega
      clear hcs hway hd hky hpl hpi'
      go_wp2_with fail
      refine (comeUp_any base q p A' c' u' L (U ++ V) wr HVT.out HPI.out.tree HPL.out HD.out (by rw [List.length_append, HVL.out]; omega)).mono ?_
      rw [HKY.out]
      rintro e w5 ⟨rfl, ⟨A5, c5, u5, hvt5, hkp5⟩, hb5⟩
      have HT5 := Lib.hid hvt5
      have HK5 := Lib.hid (HKP.out.trans hkp5 hz)
      have HB5 := Lib.hid (HB.out.trans hb5)
      clear hvt5 hb5 hkp5
      go_wp2
      go_roundg (m - (j + 1))
      case measure => omega
      case rel => exact ⟨j + 1, s', pre', turnL L p, V ++ [x], d + 1, A5, c5, u5, by go_num, by omega, Nat.le_refl _, by simp [HVL.out], HP2.out, by rw [← List.append_assoc]; exact HT5.out, HK5.out, HB5.out⟩
    · obtain rfl : j = m := by omega
      obtain ⟨h1, h2⟩ := HPI.out.last
      subst h1 h2
      go_wp2
      go_end0
      exact ⟨rfl, ⟨A', c', u', HVT.out, (Kp.of_below HB1.out q u).trans HKP.out hz1⟩, HBZ.out.trans HB.out⟩

end Go.Proofs.Ytjonepkdkhhonaa
