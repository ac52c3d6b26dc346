/-
  package hands: step, of a hand that begins its next deed.
-/
import Derived.Test.YtfmdpmebllepeaaJStep
namespace Go.Proofs.Ytfmdpmebllepeaa
open Go.RowKit

theorem done_info : (Try.prog.info? 37).map (fun i => (i.zero, i.size, i.bytes)) = some (some (.agg #[I 0, I 0, I 0, I 0, .bool false]), 5, 40) := by kernel_rfl
theorem jinfo_parts {P : Program} {e : TypeId} {z : Value} {n b : Nat} (h : (P.info? e).map (fun i => (i.zero, i.size, i.bytes)) = some (some z, n, b)) : ∃ i, P.info? e = some i ∧ i.zero = some z ∧ i.size = n ∧ i.bytes = b := by
  cases hi : P.info? e with
  | none => rw [hi] at h; cases h
  | some i =>
    rw [hi] at h
    simp at h
    exact ⟨i, rfl, h.1, h.2.1, h.2.2⟩
section
variable {base B nh v : Nat} {ad : Nat → Nat} {s : Bs} {lk : Nat → Bool} {hs : Nat → Nat → Value} {hm : Nat → Value} {w : World} {al : Nat}
theorem JS.drewN (h : JS base B nh ad s lk hs w) (n : Nat) : JS base B nh ad s lk hs (w.drewN n) := ⟨h.l.keep fun _ _ => rfl, h.h.keep rfl, h.ge⟩
/-- a row that is not the list's has grown -/
theorem JS.grown {w' : World} {row : Option Nat} (h : JS base B nh ad s lk hs w) (hg : w.grownBy w' row) (hr : ∀ g, row = some g → ∃ C, w.heap[g]? = some (.cells C 37 (0, 0))) : JS base B nh ad s lk hs w' := by
  refine ⟨h.l.keep fun i hi => hg.block _ (h.l.lt hi) fun e => ?_, h.h.keep (hg.block _ h.h.lt fun e => ?_), h.ge⟩
  · obtain ⟨C, hC⟩ := hr _ e.symm
    have h1 := h.l.bd i hi
    unfold JBead at h1
    rw [hC] at h1
    injection h1 with h1
    injection h1 with _ h1
    exact absurd h1 (by decide)
  · obtain ⟨C, hC⟩ := hr _ e.symm
    obtain ⟨C2, h2, _⟩ := h.h
    rw [hC] at h2
    injection h2 with h1
    injection h1 with _ h1
    exact absurd h1 (by decide)
/-- what is told has grown -/
theorem new_row {prog : PL} {dl : List Dn} {now m dc g5 cap5 : Nat} {DA : Option Addr} {w5 : World} (h : JS base B nh ad s lk (upd hs v hm) w) (hV : JV base v prog dl hm w) (hm5 : dl.length = m) (e2 : hm 2 = .slice DA dl.length dc)
    (hrow : ∀ g, (Value.slice DA m dc).ownBlock = some g → base ≤ g ∧ ∃ C, w.heap[g]? = some (.cells C 37 (0, 0)))
    (hS5 : JS base B nh ad s lk (upd hs v hm) w5) (hown5 : w5.ownsRow base 37 5 (.slice (some ⟨g5, 0, none⟩) (m + 1) cap5) (m + 1) (flatD dl ++ [I v, I m, I now, I (-1), .bool false]))
    (hgrow5 : (w.drew.alloc (.cells #[I v, I m, I now, I (-1), .bool false] 37)).grownBy w5 (Value.slice DA m dc).ownBlock) (hat5 : (Value.slice DA m dc).ownBlock = some g5 ∨ g5 = w.heap.size + 1) :
    JS base B nh ad s lk (upd hs v (upd hm 2 (.slice (some ⟨g5, 0, none⟩) (m + 1) cap5))) (w5.setCell ⟨B, v * 9 + 2, none⟩ (.slice (some ⟨g5, 0, none⟩) (m + 1) cap5)) ∧
      JV base v prog (dl ++ [⟨v, m, now, -1, false⟩]) (upd hm 2 (.slice (some ⟨g5, 0, none⟩) (m + 1) cap5)) (w5.setCell ⟨B, v * 9 + 2, none⟩ (.slice (some ⟨g5, 0, none⟩) (m + 1) cap5)) ∧
      JQ base (hm 2).ownBlock w (w5.setCell ⟨B, v * 9 + 2, none⟩ (.slice (some ⟨g5, 0, none⟩) (m + 1) cap5)) ∧
      ∀ g, ((upd hm 2 (.slice (some ⟨g5, 0, none⟩) (m + 1) cap5)) 2).ownBlock = some g → (hm 2).ownBlock = some g ∨ w.heap.size ≤ g := by
  have hO : (hm 2).ownBlock = (Value.slice DA m dc).ownBlock := by rw [e2, hm5]
  have hJS := hS5.fld (i := 2) (by omega) v (.slice (some ⟨g5, 0, none⟩) (m + 1) cap5)
  rw [upd_same, upd_upd] at hJS
  have hP1 : JP base w (w.drew.alloc (.cells #[I v, I m, I now, I (-1), .bool false] 37)) := ((JP.refl base w).drew).alloc (by exact h.szb) _
  have hQ2 : JQ base (Value.slice DA m dc).ownBlock (w.drew.alloc (.cells #[I v, I m, I now, I (-1), .bool false] 37)) w5 := JQ.grown hgrow5 (by have := h.szb; simp; omega) (fun g hg => by
    obtain ⟨a, C, hC⟩ := hrow g hg
    exact ⟨a, C, (Below.heap_alloc _ _ _ (by exact jblk hC)).trans hC⟩)
  have hQ3 : JP base w5 (w5.setCell ⟨B, v * 9 + 2, none⟩ (.slice (some ⟨g5, 0, none⟩) (m + 1) cap5)) := hS5.jp_fld _ _
  have hQ := ((hP1.q (Value.slice DA m dc).ownBlock).trans hQ2 (.inl rfl)).trans (hQ3.q (Value.slice DA m dc).ownBlock) (.inl rfl)
  have hlen : (dl ++ [(⟨v, m, now, -1, false⟩ : Dn)]).length = m + 1 := by simp [hm5]
  have hD5 : OwnD w5 base (.slice (some ⟨g5, 0, none⟩) (m + 1) cap5) (dl ++ [⟨v, m, now, -1, false⟩]) := by
    unfold OwnD
    rw [hlen, flatD_append]
    exact hown5
  refine ⟨hJS, hV.same (fun i hi => upd_other _ _ (by omega)) hQ.bl ?_, by rw [hO]; exact hQ, fun g hg => ?_⟩
  · rw [upd_same]
    exact hD5.keepP hQ3
  · rw [upd_same] at hg
    have : g = g5 := (Option.some.inj hg).symm
    subst this
    rw [hO]
    rcases hat5 with h1 | h1
    · exact .inl h1
    · exact .inr (by omega)
set_option maxRecDepth 100000 in
set_option maxHeartbeats 8000000 in
theorem step_new_go {prog : PL} {dl : List Dn} {now : Nat} (h : JS base B nh ad s lk (upd hs v hm) w) (hv : v < nh) (hj : dl.length < prog.length) (hV : JV base v prog dl hm w)
    (h7 : hm 7 = .nilFunc) (h3 : hm 3 = fWay al) (h4 : hm 4 = jp (ad 0)) (hJ : JC al s lk hd0 prog[dl.length].1 prog[dl.length].2) (hov : ((alg al).step s lk hd0 prog[dl.length].1 prog[dl.length].2).over = false) :
    Calls Try.prog 36 #[.pointer (some ⟨B, v * 9, none⟩), I now] w (RetS al base B nh v prog dl dl.length now now prog[dl.length].1 ad s.sz hs hm ((alg al).step s lk hd0 prog[dl.length].1 prog[dl.length].2) w) := by
  have hal := hJ.is_al
  have hle := hV.le
  have HJD : Hid (∀ (hm' : Nat → Value) (w' : World) (d : Dn), JV base v prog (dl ++ [d]) hm' w' → JD base hm' prog[dl.length].1 prog[dl.length].2 w') := fun hm' w' d h => h.jd hj (by simp)
  obtain ⟨kd, hkd⟩ : ∃ kd, prog[dl.length].1 = kd := ⟨_, rfl⟩
  obtain ⟨K, hK⟩ : ∃ K, prog[dl.length].2 = K := ⟨_, rfl⟩
  rw [hkd, hK] at hJ hov HJD
  rw [hkd, hK]
  obtain ⟨r, hr⟩ : ∃ r, (alg al).step s lk hd0 kd K = r := ⟨_, rfl⟩
  have HJ := Lib.hid hJ
  have HR := Lib.hid hr
  rw [hr] at hov ⊢
  obtain ⟨DA, dc, e2, hDA⟩ := hV.done.is_
  obtain ⟨m, hm5⟩ : ∃ m, dl.length = m := ⟨_, rfl⟩
  have hown0 : w.ownsRow base 37 5 (.slice DA m dc) m (flatD dl) := by have := hV.done; unfold OwnD at this; rw [e2, hm5] at this; exact this
  have hrow : ∀ g, (Value.slice DA m dc).ownBlock = some g → base ≤ g ∧ ∃ C, w.heap[g]? = some (.cells C 37 (0, 0)) := fun g hg => by
    obtain ⟨C, a, b⟩ := hV.done.blk (g := g) (by rw [e2, hm5]; exact hg)
    exact ⟨b, C, a⟩
  have c7 : w.cell? ⟨B, v * 9 + 7, none⟩ = some .nilFunc := by have := h.h.cell hv (i := 7) (by omega); rw [upd_same, h7] at this; exact this
  have c2 : w.cell? ⟨B, v * 9 + 2, none⟩ = some (.slice DA m dc) := by have := h.h.cell hv (i := 2) (by omega); rw [upd_same, e2, hm5] at this; exact this
  have c0 : w.cell? ⟨B, v * 9, none⟩ = some (I v) := by have := h.h.cell hv (i := 0) (by omega); rw [upd_same, hV.who] at this; exact this
  have c2a : ∀ o : Obj, (w.drew.alloc o).cell? ⟨B, v * 9 + 2, none⟩ = some (.slice DA m dc) := fun o => (((Below.refl _ _).alloc (Nat.le_refl _) o).cell (B := w.drew.heap.size) (w := w.drew) (p := ⟨B, v * 9 + 2, none⟩) (by exact h.h.lt)).trans c2
  have hq := func_eqn
  obtain ⟨i0, hi, hz0, hz1, hz2⟩ := jinfo_parts done_info
  have HI := Lib.hid hi
  have HZ0 := Lib.hid hz0
  have HZ1 := Lib.hid hz1
  have HZ2 := Lib.hid hz2
  have H := Lib.hid h
  have HV := Lib.hid hV
  have HOWN : Hid ((w.drew.alloc (.cells #[I v, I m, I now, I (-1), .bool false] 37)).ownsRow base 37 5 (.slice DA m dc) m (flatD dl)) := Lib.hid (by
    have := hV.done.keepP (((JP.refl base w).drew).alloc (by exact h.szb) (.cells #[I v, I m, I now, I (-1), .bool false] 37))
    unfold OwnD at this
    rw [e2, hm5] at this
    exact this)
  have HROW := Lib.hid hrow
  have hsz := h.szb
  have hBlt := h.h.lt
  have HM := Lib.hid hm5
  have hm4 : m ≤ 4 := by omega
  have H3 := Lib.hid h3
  have H4 := Lib.hid h4
  have E2 := Lib.hid e2
  have HOV := Lib.hid hov
  have HAL := Lib.hid hal
  have HNEW : Hid (∀ j u, [I (v : Int), I (m : Int), I (now : Int), I (-1), .bool false][j]? = some u → (w.drew.alloc (.cells #[I v, I m, I now, I (-1), .bool false] 37)).cell? ((⟨w.heap.size, 0, none⟩ : Addr).add j) = some u) := fun j u hu => by
    have : (w.drew.alloc (.cells #[I v, I m, I now, I (-1), .bool false] 37)).cell? ⟨w.drew.heap.size, j, none⟩ = _ := World.cell?_alloc_mark w.drew #[I v, I m, I now, I (-1), .bool false] 37 (0, 0) j
    rw [show ((⟨w.heap.size, 0, none⟩ : Addr).add j) = ⟨w.drew.heap.size, j, none⟩ by simp [Addr.add] <;> omega, this]
    simpa using hu
  clear hi hz0 hz1 hz2 h hV hown0 hrow h7 h3 h4 hJ hov hal e2 hDA hm5 hle hr hkd hK hj
  go_enter Try.func36, Try.ntmps36
  go_wp2_with fail
  go_region_law
    (refine step_append_lies _ rfl (.tmp 14) (.tmp 26) 24 rfl base 37 i0 _ 5 40 Try.underlying24 HI.out HZ0.out HZ1.out HZ2.out rfl (by omega) (.slice DA m dc) m (flatD dl) rfl HOWN.out ⟨w.heap.size, 0, none⟩ 1 1 [I v, I m, I now, I (-1), .bool false] rfl rfl HNEW.out (by intro u hu; simp at hu; rcases hu with rfl | rfl | rfl | rfl | rfl <;> rfl) (by omega) (by unfold maxLen; omega) (by omega) (by simp; omega) (w.heap.size + 1) (by simp) ?_
     intro g5 cap5 w5 hown5 hgrow5 hat5 hlt5
     have hgr : ∀ g, (Value.slice DA m dc).ownBlock = some g → ∃ C, (w.drew.alloc (.cells #[I v, I m, I now, I (-1), .bool false] 37)).heap[g]? = some (.cells C 37 (0, 0)) := fun g hg => (by
       obtain ⟨_, C, hC⟩ := HROW.out g hg
       exact ⟨C, (Below.heap_alloc _ _ _ (by exact jblk hC)).trans hC⟩)
     have hS5 := ((H.out.drewN 1).alloc (.cells #[I v, I m, I now, I (-1), .bool false] 37)).grown hgrow5 hgr
     have c25 : w5.cell? ⟨B, v * 9 + 2, none⟩ = some (.slice DA m dc) := (by have := hS5.h.cell hv (i := 2) (by omega); rw [upd_same, E2.out, HM.out] at this; exact this)
     have f25 := hS5.h.froz (v * 9 + 2)
     have HS5 := Lib.hid hS5
     have HOWN5 := Lib.hid hown5
     have HGROW5 := Lib.hid hgrow5
     have HAT5 := Lib.hid hat5
     clear hown5 hgrow5 hat5 hS5 hgr)
  all_goals
    (obtain ⟨hs6, hV6, hQ6, ho6⟩ := new_row (now := now) H.out HV.out HM.out E2.out HROW.out HS5.out HOWN5.out HGROW5.out HAT5.out
     have hst6 : ST base B nh v kd K ad s lk hs (upd hm 2 (.slice (some ⟨g5, 0, none⟩) (m + 1) cap5)) (w5.setCell ⟨B, v * 9 + 2, none⟩ (.slice (some ⟨g5, 0, none⟩) (m + 1) cap5)) := ⟨hs6, hv, HJD.out _ _ _ hV6⟩
     have HB6 := Lib.hid (begin_any HAL.out hst6 ((upd_other _ _ (by omega)).trans H3.out))
     have HV6 := Lib.hid hV6
     have HQ6 := Lib.hid hQ6
     have HO6 := Lib.hid ho6
     clear hs6 hV6 hQ6 ho6 hst6
     go_wp2_with fail
     refine HB6.out.mono ?_
     rintro e w7 ⟨f, ⟨rfl, h7, hp7⟩, hn7⟩
     have hn7' : NX al w7 (.pointer (some ⟨B, v * 9, none⟩)) hd0.at_ kd ((upd (upd hm 2 (.slice (some ⟨g5, 0, none⟩) (m + 1) cap5)) 7 f) 7) := (by rw [upd_same]; exact hn7)
     obtain ⟨k, caps, e7, hC⟩ := next_any h7 hn7' ((upd_other _ _ (by omega)).trans ((upd_other _ _ (by omega)).trans H3.out)) ((upd_other _ _ (by omega)).trans ((upd_other _ _ (by omega)).trans H4.out)) (fun h => absurd rfl h) HJ.out
     obtain ⟨k', caps', e7', hE⟩ := hn7'.func HAL.out
     have hkk : k' = k := (by rw [e7] at e7'; injection e7' with e7'; injection e7' with e7'; exact e7'.symm)
     subst hkk
     have c77 := h7.hand (i := 7) (by omega)
     rw [e7] at c77
     rw [HR.out] at hC
     have HC := Lib.hid hC
     have HP7 := Lib.hid hp7
     clear hn7 hn7' e7 e7' h7 hp7 hC
     go_wp2_with fail
     refine HC.out.mono ?_
     rintro e w8 ⟨ad', hm', had, ⟨rfl, h1, hp1⟩, h41, -, hn1⟩
     have hn1' := hn1 HOV.out
     obtain ⟨k1, caps1, e71, -⟩ := hn1'.1.func HAL.out
     have c71 := h1.hand (i := 7) (by omega)
     rw [e71] at c71
     have hq1 := func_eq k1 caps1
     have H1 := Lib.hid h1
     have HP1 := Lib.hid hp1
     have H41 := Lib.hid h41
     have HN1 := Lib.hid hn1'
     have HAD := Lib.hid had
     clear h1 hp1 h41 hn1 hn1' had e71 hE c77
     go_wp2
     go_end0
     have hres := retS_go (now := now) (b := now) (j := m) (ad0 := ad') HOV.out HAD.out H1.out (HP7.out.trans HP1.out) HV6.out (fun i hi => (H41.out i hi).trans (upd_other _ _ (by omega))) HN1.out ⟨upd_other _ _ (by omega), upd_other _ _ (by omega)⟩ HQ6.out HO6.out
     rw [HM.out]
     exact hres)
end

end Go.Proofs.Ytfmdpmebllepeaa
