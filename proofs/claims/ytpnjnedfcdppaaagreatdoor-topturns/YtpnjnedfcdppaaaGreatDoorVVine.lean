/-
  package vine: vineOf, Vine.
-/
import Derived.Test.YtpnjnedfcdppaaaGreatDoorVUp
namespace Go.Proofs.YtpnjnedfcdppaaaGreatDoor
open Go.RowKit

/-- what is left to be done of a tree t: ahead of the rest s is a vine -/
structure VI (t : Tr) (L : PL) (U : List Int) (r : Nat) (s : Tr) (pre : PL) : Prop where
  tree : IsTree L
  eq : L = pre ++ s.sp r
  len : pre.length = r
  ctx : Ctx 0 r pre []
  into : pre ++ (vnT s.ks).sp r = (vnT t.ks).sp 0
  ups : vks t = U ++ vks s
theorem VI.first {t : Tr} (h : IsTree (t.sp 0)) : VI t (t.sp 0) [] 0 t [] := ⟨h, by simp, rfl, .hole, by simp, rfl⟩
theorem VI.right {t : Tr} {L : PL} {U : List Int} {r : Nat} {k : Int} {b : Tr} {pre : PL} (h : VI t L U r (.node .nil k b) pre) : VI t L U (r + 1) b (pre ++ [(k, (r : Int))]) := by
  refine ⟨h.tree, by rw [h.eq]; simp [Tr.sp], by simp [h.len], ?_, ?_, by rw [h.ups, vks_right]⟩
  · have := Ctx.right .nil k h.ctx
    simp only [Tr.sp, List.append_nil] at this
    exact this
  · rw [← h.into]
    simp [Tr.ks, vnT, Tr.sp]
theorem VI.turn {t : Tr} {L : PL} {U : List Int} {r : Nat} {a b c : Tr} {k p : Int} {pre : PL} (h : VI t L U r (.node (.node a k b) p c) pre) :
    dp L (r + a.size) ≠ 0 ∧ ky L (r + a.size) = k ∧ VI t (turnL L (r + a.size)) (U ++ [k]) r (.node a k (.node b p c)) pre := by
  have hl : LL L (r + a.size) (r + (a.size + 1 + b.size)) r a k b p c pre [] := ⟨h.ctx, by rw [h.eq]; simp, by rw [h.len], by rw [h.len]⟩
  have hroot := hl.at_i.root
  have hlen := hl.at_i.len
  have hd : dp L (r + a.size) ≠ 0 := by rw [hroot.1]; omega
  have hlt : r + a.size < L.length := by rw [hlen, h.len]; simp; omega
  obtain ⟨_, _, htd⟩ := turned_of h.tree hlt hd
  have ht := hl.turn
  rw [List.append_nil] at ht
  refine ⟨hd, hroot.2, htd.tree, ht, h.len, h.ctx, ?_, ?_⟩
  · rw [← h.into]
    congr 3
    simp [Tr.ks]
  · rw [h.ups, vks_turn]
    simp
theorem VI.len_all {t : Tr} {L : PL} {U : List Int} {r : Nat} {s : Tr} {pre : PL} (h : VI t L U r s pre) : r + s.size = L.length := by rw [h.eq]; simp [sp_length, h.len]
theorem VI.last {t : Tr} {L : PL} {U : List Int} {r : Nat} {pre : PL} (h : VI t L U r .nil pre) : L = (vnT t.ks).sp 0 ∧ U = vks t := by
  have h1 := h.into
  have h2 := h.eq
  have h3 := h.ups
  simp [Tr.ks, vnT, Tr.sp, vks] at h1 h2 h3
  exact ⟨by rw [h2, h1], h3.symm⟩
theorem VI.top {t : Tr} {L : PL} {U : List Int} {r : Nat} {a b : Tr} {k : Int} {pre : PL} (h : VI t L U r (.node a k b) pre) : TopFr L r L.length (r + a.size) := by
  have := topFr_sp pre [] a b k r
  rw [List.append_nil, ← h.eq, h.len, h.len_all] at this
  exact this
theorem VI.left {t : Tr} {L : PL} {U : List Int} {r : Nat} {a b c : Tr} {k p : Int} {pre : PL} (h : VI t L U r (.node (.node a k b) p c) pre) : TopFr (L.take (r + (a.size + 1 + b.size))) r (r + (a.size + 1 + b.size)) (r + a.size) := by
  have := topFr_sp pre [] a b k (r + 1)
  have e : L.take (r + (a.size + 1 + b.size)) = pre ++ (Tr.node a k b).sp (r + 1) ++ [] := by
    rw [h.eq, List.append_nil, show (Tr.node (.node a k b) p c).sp r = (Tr.node a k b).sp (r + 1) ++ ((p, (r : Int)) :: c.sp (r + 1)) from rfl, ← List.append_assoc, List.take_left']
    simp [sp_length, h.len, Tr.size]
  rw [e, h.len] at *
  exact this
theorem vks_bd {t : Tr} {U V : List Int} (h : vks t = U ++ V) : U.length ≤ t.size := by
  have := vks_le t
  rw [h] at this
  simp at this
  omega

/-- what vineOf answers -/
def RetVO (L : PL) (U : List Int) (w : World) (e : Ending) (w' : World) : Prop :=
  ∃ A c u, e = .returned (.tuple #[.agg #[.slice A L.length c, u], I 0]) ∧ PS w' A L.length c L ∧ OwnI w' w.heap.size u U ∧ Below w.heap.size w w' ∧ (0 < L.length → ∀ ad, A = some ad → w.heap.size ≤ ad.block ∧ u.ownBlock ≠ some ad.block)

theorem tree_struct : ∃ d, Tryz.prog.underlying 142 = some (.struct d) := ⟨_, Tryz.underlying142⟩
theorem tree_size : (Tryz.prog.info? 142).map (·.size) = some 2 := by kernel_rfl

set_option maxRecDepth 100000 in
set_option maxHeartbeats 2000000 in
theorem vineOf_ok (A : Option Addr) (n c : Nat) (t : Tr) (w : World) (h : PS w A n c (t.sp 0)) (hT : IsTree (t.sp 0)) :
    Calls Tryz.prog 79 #[.slice A n c] w (RetVO ((vnT t.ks).sp 0) (vks t) w) := by
  have hn : n ≤ 200 := by rw [← h.len]; exact hT.1
  have hsz : t.size = n := by rw [← sp_length t 0, h.len]
  have HSZ := Lib.hid hsz
  have H := Lib.hid h
  have HT := Lib.hid hT
  have HC := Lib.hid (chkS_zero.2 hT)
  clear h hT hsz
  go_enter Tryz.func79, Tryz.ntmps79
  go_wp2_with fail
  refine (CheckS_is A n c (t.sp 0) _ (H.out.alloc _) (by omega) 0 HC.out).mono ?_
  rintro e w1 ⟨rfl, hb1⟩
  have HB1 := Lib.hid hb1
  clear hb1
  go_wp2_with fail
  refine (clone_any A n c (t.sp 0) _ (H.out.below (below_box HB1.out)) (by omega)).mono ?_
  rintro e w2 ⟨v, rfl, hown, hb2⟩
  obtain ⟨A2, c2, rfl, hps2, hf2⟩ := hown.ps
  rw [sp_length, HSZ.out] at hps2 ⊢
  have HPS2 := Lib.hid hps2
  have HB2 := Lib.hid hb2
  clear hown hps2 hb2
  have HRES : Hid (w2.heap[w.heap.size]? = some (.cells #[.slice none 0 0, .slice none 0 0] 142 (0, 0)) ∧ Below (w.heap.size + 1) (w.alloc (.cells #[.slice none 0 0, .slice none 0 0] 142)) w2) := by
    have hb := HB1.out.trans (HB2.out.mono HB1.out.size)
    rw [World.size_alloc] at hb
    exact ⟨(hb.block _ (by omega)).trans (heap_alloc_new w _), hb⟩
  have hz2 : w.heap.size + 1 ≤ w2.heap.size := by have := HRES.out.2.size; rw [World.size_alloc] at this; exact this
  have HV0 : Hid (VT (w2.alloc (.cells #[.slice A2 n c2, .slice none 0 0] 142)) (w.heap.size + 1) w2.heap.size A2 c2 (.slice none 0 0) (t.sp 0) []) := by
    have := VT.new (w := w2) (base := w.heap.size + 1) (A := A2) (c := c2) (u := .slice none 0 0) (L := t.sp 0) (U := []) hz2 (by rw [sp_length, HSZ.out]; exact HPS2.out) (World.ownsRow_nil _ _ _ _) (fun _ ad ha => ⟨by have := hf2 ad ha; have := HB1.out.size; rw [World.size_alloc] at this; omega, by simp [Value.ownBlock]⟩)
    rw [sp_length, HSZ.out] at this
    exact this
  clear hf2
  go_wp2
  go_loopg [6] (2 * n) (fun m i wr => ∃ (r : Nat) (s : Tr) (pre L : PL) (U : List Int) (A' : Option Addr) (c' : Nat) (u : Value), i = .int .i64 r ∧ 2 * s.size - s.rsp ≤ m ∧ L.length = n ∧ VI t L U r s pre ∧ VT wr (w.heap.size + 1) w2.heap.size A' c' u L U ∧ Below (w.heap.size + 1) w2 wr)
  case atStart => exact ⟨0, t, [], t.sp 0, [], A2, c2, _, rfl, by have := HSZ.out; omega, by rw [sp_length, HSZ.out], VI.first HT.out, HV0.out, (Below.refl _ _).alloc hz2 _⟩
  case round =>
    obtain ⟨r, s, pre, L, U, A', c', u, rfl, hm, hL, hvi, hvt, hb⟩ := hrel
    obtain ⟨Au, cu, rfl, -, -⟩ := hvt.own.is_
    obtain ⟨mu, hmu⟩ : ∃ mu, U.length = mu := ⟨_, rfl⟩
    rw [hmu] at hvt
    have HMU := Lib.hid hmu
    have HVI := Lib.hid hvi
    have HVT := Lib.hid hvt
    have HB := Lib.hid hb
    have hU := vks_bd hvi.ups
    rw [HSZ.out] at hU
    have HM := Lib.hid hm
    have hrs := hvi.len_all
    rw [hL] at hrs
    have HL := Lib.hid hL
    have hblk := hvt.blk
    rw [hL] at hblk
    have HBLK := Lib.hid hblk
    obtain ⟨hq0, hq1⟩ := hblk.cells
    have hlq := hblk.lt
    have hps := hvt.ps
    rw [hL] at hps
    have HPS := Lib.hid hps
    have hzr := hb.size
    clear hvi hvt hb hm hL hblk hps
    cases s with
    | nil =>
      have hrn : ¬ r < n := by simp only [Tr.size] at hrs; omega
      obtain ⟨hl1, hl2⟩ := HVI.out.last
      subst hl1 hl2
      have hres : wr.heap[w.heap.size]? = some (.cells #[.slice none 0 0, .slice none 0 0] 142 (0, 0)) := (HB.out.block _ (by omega)).trans HRES.out.1
      have hr0 : wr.cell? ⟨w.heap.size, 0, none⟩ = some (.slice none 0 0) := by simp [World.cell?, hres]
      have hr1 : wr.cell? ⟨w.heap.size, 1, none⟩ = some (.slice none 0 0) := by simp [World.cell?, hres]
      have hf0 : wr.frozen? ⟨w.heap.size, 0, none⟩ = false := by simp [World.frozen?, hres]
      have hf1 : wr.frozen? ⟨w.heap.size, 1, none⟩ = false := by simp [World.frozen?, hres]
      have HR := Lib.hid hres
      clear hres hrs
      have hfar := HVT.out.far
      have HOWN := Lib.hid HVT.out.own
      clear hmu
      go_wp2
      have hset : ((wr.setCell ⟨w.heap.size, 0, none⟩ (.slice A' n c')).setCell ⟨w.heap.size, 1, none⟩ (.slice Au mu cu)).heap[w.heap.size]? = some (.cells #[.slice A' n c', .slice Au mu cu] 142 (0, 0)) := by
        have h1 := vcells_set (cs := [.slice none 0 0, .slice none 0 0]) HR.out 0 (.slice A' n c')
        have h2 := vcells_set (cs := [.slice A' n c', .slice none 0 0]) h1 1 (.slice Au mu cu)
        exact h2
      have hbl : Below w.heap.size w ((wr.setCell ⟨w.heap.size, 0, none⟩ (.slice A' n c')).setCell ⟨w.heap.size, 1, none⟩ (.slice Au mu cu)) := by
        have h1 : Below w.heap.size w wr := (((Below.refl _ _).alloc (Nat.le_refl _) _).trans (HRES.out.2.mono (by omega))).trans (HB.out.mono (by omega))
        exact (h1.setCell (B := w.heap.size) (p := ⟨w.heap.size, 0, none⟩) (Nat.le_refl _) _).setCell (B := w.heap.size) (p := ⟨w.heap.size, 1, none⟩) (Nat.le_refl _) _
      have hown2 : OwnI ((wr.setCell ⟨w.heap.size, 0, none⟩ (.slice A' n c')).setCell ⟨w.heap.size, 1, none⟩ (.slice Au mu cu)) w.heap.size (.slice Au mu cu) (vks t) := by
        have hne : (Value.slice Au mu cu).ownBlock ≠ some w.heap.size := fun h => by have := own_ge1 HOWN.out _ h; omega
        exact own_mono1 (vown_far (p := ⟨w.heap.size, 1, none⟩) (vown_far (p := ⟨w.heap.size, 0, none⟩) HOWN.out hne _) hne _) (by omega)
      have hps2 : PS ((wr.setCell ⟨w.heap.size, 0, none⟩ (.slice A' n c')).setCell ⟨w.heap.size, 1, none⟩ (.slice Au mu cu)) A' n c' ((vnT t.ks).sp 0) := by
        rcases Nat.eq_zero_or_pos n with h0 | h0
        · exact ⟨HPS.out.len, HPS.out.rd.1, fun h => by omega⟩
        · have hne : ∀ ad, A' = some ad → ad.block ≠ w.heap.size := fun ad ha => by have := (hfar (by rw [HL.out]; exact h0) ad ha).1; omega
          exact (HPS.out.far (p := ⟨w.heap.size, 0, none⟩) hne _).far (p := ⟨w.heap.size, 1, none⟩) hne _
      generalize (wr.setCell ⟨w.heap.size, 0, none⟩ (.slice A' n c')).setCell ⟨w.heap.size, 1, none⟩ (.slice Au mu cu) = wf at *
      refine bodyPost_ret (v := .tuple #[.agg #[.slice A' n c', .slice Au mu cu], I 0]) ?_ rfl ?_
      · obtain ⟨d, hd⟩ := tree_struct
        have := run_loadVar_row (P := Tryz.prog) wf w.heap.size 142 142 #[.slice A' n c', .slice Au mu cu] (0, 0) _ hset hd rfl tree_size
        simp [results, Tryz.results79, asAddr, this]
      · exact ⟨A', c', _, by rw [HL.out], by rw [HL.out]; exact hps2, hown2, hbl, fun h0 ad ha => ⟨by have := (hfar h0 ad ha).1; omega, (hfar h0 ad ha).2.2⟩⟩
    | node a k b =>
      have hsn : (Tr.node a k b).size = a.size + 1 + b.size := rfl
      have hrn : r < n := by omega
      obtain ⟨p, hp⟩ : ∃ p, r + a.size = p := ⟨_, rfl⟩
      have hpn : p < n := by omega
      have HTF := Lib.hid HVI.out.top
      rw [HL.out, hp] at HTF
      clear hmu
      cases a with
      | nil =>
        obtain rfl : p = r := by simp only [Tr.size] at hp; omega
        have HV2 := Lib.hid HVI.out.right
        clear hp hsn hrs
        go_wp2_with fail
        refine (topFrom_any A' n c' p p L wr HPS.out (by omega) hrn hpn HTF.out).mono ?_
        rintro e w3 ⟨rfl, hb3⟩
        have HT3 := Lib.hid (HVT.out.below hb3)
        have HB3 := Lib.hid (HB.out.trans (hb3.mono (by omega)))
        clear hb3
        have hpp : ((p : Int) == (p : Int)) = true := by simp
        have hpw : IntKind.i64.wrap ((p : Int) + 1) = p + 1 := IntWalk.i64_in _ (by omega)
        go_wp2
        go_roundg (2 * b.size - b.rsp)
        case measure => have h1 := HM.out; have h2 := rsp_le b; simp only [Tr.size, Tr.rsp] at h1; omega
        case rel => exact ⟨p + 1, b, _, L, U, A', c', _, by go_num, Nat.le_refl _, HL.out, HV2.out, HT3.out, HB3.out⟩
      | node x y z =>
        have hxn : (Tr.node x y z).size = x.size + 1 + z.size := rfl
        obtain ⟨g, hg⟩ : ∃ g, r + x.size = g := ⟨_, rfl⟩
        obtain ⟨hd, hky, hvi2⟩ := HVI.out.turn
        have HTF2 := Lib.hid HVI.out.left
        rw [show r + (x.size + 1 + z.size) = p by omega, hg] at HTF2
        rw [hg] at hd hky hvi2
        have HD := Lib.hid hd
        have HKY := Lib.hid hky
        have HV2 := Lib.hid hvi2
        have hgp : g < p := by omega
        have hrp : r < p := by omega
        have hne : ((p : Int) == (r : Int)) = false := by simp; omega
        have hne2 : ¬ p = r := by omega
        have htl := (turned_of HVI.out.tree (by rw [HL.out]; omega : g < L.length) hd)
        obtain ⟨_, _, htd⟩ := htl
        have HTL := Lib.hid (htd.len.trans HL.out)
        have hcap : n ≤ c' := HPS.out.rd.1
        clear hd hky hvi2 hsn hxn hrs hp hg htd
        go_wp2_with fail
        refine (topFrom_any A' n c' r p L wr HPS.out (by omega) hrn hpn HTF.out).mono ?_
        rintro e w3 ⟨rfl, hb3⟩
        have HT3 := Lib.hid (HVT.out.below hb3)
        have HB3 := Lib.hid (HB.out.trans (hb3.mono (by omega)))
        have HPS3 := Lib.hid (HPS.out.below hb3)
        have hq03 : w3.cell? ⟨w2.heap.size, 0, none⟩ = some (.slice A' n c') := (hb3.cell (by exact hlq)).trans hq0
        have hlq3 : w2.heap.size < w3.heap.size := Nat.lt_of_lt_of_le hlq hb3.size
        clear hb3 hq0 hq1
        go_wp2_with fail
        refine (topFrom_any A' p c' r g (L.take p) w3 (HPS3.out.take p (by omega)) (by omega) hrp hgp HTF2.out).mono ?_
        rintro e w4 ⟨rfl, hb4⟩
        have HT4 := Lib.hid (HT3.out.below hb4)
        have hz4 := hb4.size
        have HB4 := Lib.hid (HB3.out.trans (hb4.mono (by have := HB3.out.size; omega)))
        clear hb4 hq03
        go_wp2_with fail
        refine (comeUp_any (w.heap.size + 1) w2.heap.size g A' c' _ L U w4 HT4.out HVI.out.tree (by rw [HL.out]; omega) HD.out (by omega)).mono ?_
        rw [HKY.out]
        rintro e w5 ⟨rfl, ⟨A5, c5, u5, hvt5, -⟩, hb5⟩
        have HT5 := Lib.hid hvt5
        have HB5 := Lib.hid (HB4.out.trans hb5)
        clear hvt5 hb5
        go_wp2
        go_roundg (2 * (Tr.node x y (.node z k b)).size - (Tr.node x y (.node z k b)).rsp)
        case measure => have h1 := HM.out; have h2 := rsp_le b; simp only [Tr.size, Tr.rsp] at h1 ⊢; omega
        case rel => exact ⟨r, _, _, turnL L g, U ++ [y], A5, c5, u5, rfl, Nat.le_refl _, HTL.out, HV2.out, HT5.out, HB5.out⟩

end Go.Proofs.YtpnjnedfcdppaaaGreatDoor
