/-
  Joined texts: YtolgncaaffmmnaaDoorOTree2, YtolgncaaffmmnaaDoorRunA.
-/
import Derived.Test.YtolgncaaffmmnaaDoorOTree
import Derived.Test.YtolgncaaffmmnaaDoorRunAll
/-
  package goat: leave.
-/
namespace Go.Proofs.YtolgncaaffmmnaaDoor
open Go.RowKit

theorem key_place {t : Tr} {x : Int} (hu : Up t.ks) (hx : x ∈ t.ks) : ∃ p, p < t.size ∧ ky (t.sp 0) p = x ∧ (∀ i, i < p → ky (t.sp 0) i < x) := by
  obtain ⟨p, hp, e⟩ := List.getElem_of_mem hx
  have hp2 : p < t.size := by rw [← ks_length]; exact hp
  have hk : ky (t.sp 0) p = x := by rw [ks_ky t 0 p hp2]; exact e
  exact ⟨p, hp2, hk, fun i hi => by rw [← hk]; exact up_place hu hp2 i hi⟩

set_option maxRecDepth 100000 in
set_option maxHeartbeats 8000000 in
theorem leave_any (T : Nat) (s : GS) (x : Int) (w : World) (h : GT w T s) (hu : Up s.t.ks) (hx : x ∈ s.t.ks) (hsz : s.t.size ≤ 200) (hm : s.most ≤ 200) (hbl : s.built ≤ 900000) :
    Calls Tryd.prog 32 #[.pointer (some ⟨T, 0, none⟩), I x] w (RetG T (goC s x) w) := by
  obtain ⟨v, hv, ho⟩ := h
  obtain ⟨p, hp, hky, hlo⟩ := key_place hu hx
  obtain ⟨n, hn⟩ : ∃ n, s.t.size = n + 1 := ⟨s.t.size - 1, by omega⟩
  have hn200 : n ≤ 200 := by omega
  have hdsz : (s.t.del x).size = n := by have := (del_all hu hx).1; omega
  rcases OwnR.rb ho with ⟨_, e0⟩ | ⟨g, cap, rfl, hg, hcm, hrb⟩
  · have := sp_length s.t 0
    rw [e0] at this
    simp at this
    omega
  have hps := hrb.ps
  rw [sp_length, hn] at hps hv
  have hv' : TB w T (.slice (some ⟨g, 0, none⟩) (n + 1) cap) s.most s.built := hv
  have HPL : Hid (Calls Tryd.prog 47 #[.slice (some ⟨g, 0, none⟩) ((n + 1 : Nat)) cap, I x] w.drew fun e w' => e = .returned (I p) ∧ w' = w.drew) := oplace_any _ (n + 1) cap p (s.t.sp 0) x w.drew hps.drew (by omega) (by omega) hlo (fun _ => by omega)
  have HWO : Hid (Calls Tryd.prog 52 #[.slice (some ⟨g, 0, none⟩) ((n + 1 : Nat)) cap, I p] w.drew (RetW g cap n ((s.t.del x).sp 0) w.drew)) := owo_any (T + 1) n g cap p s.t x w.drew hrb hn hcm (by omega) hu hx hp hky hg
  have HGO := Lib.hid (show goC s x = _ by unfold goC; rfl)
  rw [hdsz] at HGO
  have HDL : Hid (((s.t.del x).sp 0).length = n) := by show _ = _; rw [sp_length, hdsz]
  have HKS : Hid (kys ((s.t.del x).sp 0) = (s.t.del x).ks) := okys_sp _ _
  have HV := Lib.hid hv'
  obtain ⟨c0, c1, c2⟩ := hv'.cells
  have hlt := hv'.lt
  have hnc : n + 1 ≤ cap := hps.rd.1
  have HBU := Lib.hid (fun w' (hv' : TB w' T (.slice (some ⟨g, 0, none⟩) n cap) s.most s.built) (hr' : RB w' g 65 cap ([] ++ (s.t.del x).sp 0 ++ [])) => obuild_any T g 0 n cap cap (.slice (some ⟨g, 0, none⟩) n cap) s.most s.built [] ((s.t.del x).sp 0) [] 0 w' hv' rfl HDL.out hr' (by omega) (by omega) (by omega) (Int.le_refl _) (by omega) (by omega))
  simp only [HKS.out, List.nil_append, List.append_nil, Nat.zero_mul] at HBU
  have HEV : Hid (((ev (s.t.del x).ks).sp 0).length = n) := by show _ = _; rw [sp_length, ev_size, ks_length, hdsz]
  generalize s.t.del x = t' at *
  generalize s.most = mo at *
  generalize s.built = bu at *
  clear ho hrb hps hv hv' hu hx hky hlo hdsz hn hsz
  go_enter Tryd.func32, Tryd.ntmps32
  go_wp2
  go_region_with
    (first
      | (go_at_call 47
         refine HPL.out.mono ?_
         rintro e w1 ⟨rfl, hw1⟩
         subst hw1)
      | (go_at_call 52
         refine HWO.out.mono ?_
         rintro e w2 ⟨rfl, hr2, hb2⟩
         have hB2 : Below g w w2 := (Below.refl _ _).drew.trans hb2
         have hv2 := HV.out.below hB2 (by omega)
         obtain ⟨d0, d1, d2⟩ := hv2.cells
         have dz := hv2.frozen 0
         have HV3 := Lib.hid (hv2.set0 (.slice (some ⟨g, 0, none⟩) n cap))
         have HR3 := Lib.hid (hr2.far (p := ⟨T, 0, none⟩) (by show T ≠ g; omega) (.slice (some ⟨g, 0, none⟩) n cap))
         have HB3 : Hid (Below T w (w2.setCell ⟨T, 0, none⟩ (.slice (some ⟨g, 0, none⟩) n cap))) := (hB2.mono (by omega)).setCell (B := T) (p := ⟨T, 0, none⟩) (Nat.le_refl _) _
         clear hr2 hb2 hB2 hv2))
  all_goals
    obtain ⟨w3, hw3⟩ : ∃ W, w2.setCell ⟨T, 0, none⟩ (.slice (some ⟨g, 0, none⟩) n cap) = W := ⟨_, rfl⟩
    rw [hw3] at HV3 HR3 HB3 ⊢
    clear hw3 d0 d1 d2 dz HPL HWO
    obtain ⟨e0, e1, e2⟩ := HV3.out.cells
    have hlt3 := HV3.out.lt
    by_cases hcmp : 3 * n < 2 * mo
    · rw [if_pos hcmp] at HGO
      have hcmp' : 3 * (n : Int) < 2 * (mo : Int) := by omega
      clear hcmp
      go_wp2
      go_quiet (fail)
      go_wp2_with fail
      refine (HBU.out (w3.drewN _) HV3.out HR3.out).mono ?_
      rintro e w4 ⟨rfl, hv4, hr4, hb4⟩
      obtain ⟨f0, f1, f2⟩ := hv4.cells
      have fz := hv4.frozen 1
      have hlt4 := hv4.lt
      have HB5 : Hid (Below T w (w4.setCell ⟨T, 1, none⟩ (I n))) := ((below_drewN HB3.out _).trans hb4).setCell (B := T) (p := ⟨T, 1, none⟩) (Nat.le_refl _) _
      have HG5 : Hid (GT (w4.setCell ⟨T, 1, none⟩ (I n)) T (goC s x)) := by
        show GT _ _ _
        rw [HGO.out]
        refine ⟨_, hv4.set1 n, ?_⟩
        have := (hr4.far (p := ⟨T, 1, none⟩) (by show T ≠ g; omega) (I n)).own (base := T + 1) hg hcm
        rw [HEV.out] at this
        exact this
      clear hv4 hr4 hb4 e0 e1 e2
      go_wp2
      go_end0
      exact ⟨rfl, HG5.out, HB5.out⟩
    · rw [if_neg hcmp] at HGO
      have hcmp' : decide (3 * (n : Int) < 2 * (mo : Int)) = false := by simpa using (show ¬ 3 * (n : Int) < 2 * (mo : Int) by omega)
      clear hcmp
      have HG5 : Hid (∀ q, GT (w3.drewN q) T (goC s x)) := fun q => by
        rw [HGO.out]
        refine ⟨_, (show TB w3 _ _ _ _ from HV3.out), ?_⟩
        have := HR3.out.own (base := T + 1) hg hcm
        rw [HDL.out] at this
        exact this
      go_wp2
      go_quiet (fail)
      go_wp2
      go_end0
      exact ⟨rfl, HG5.out _, below_drewN HB3.out _⟩

end Go.Proofs.YtolgncaaffmmnaaDoor

/-
  The answers of plain.Run, one by one; an op, an answer as blocks.
-/
namespace Go.Proofs.YtolgncaaffmmnaaDoor
open Go.RowKit

theorem fold_ans : ∀ (ops : List OP) (s : PL × List An), (ops.foldl stepR s).2 = s.2 ++ (ops.foldl stepR (s.1, [])).2
  | [], s => by simp
  | o :: ops, s => by
    rw [List.foldl_cons, List.foldl_cons, fold_ans ops (stepR s o), fold_ans ops (stepR (s.1, []) o)]
    simp [stepR]
theorem runR_ans (ops : List OP) (k : Nat) (h : k < ops.length) : (runR ops).2[k]'(by rw [runR_len]; exact h) = doA (runR (ops.take k)).1 ops[k].1 ops[k].2.1 := by
  have e : runR ops = (ops.drop (k + 1)).foldl stepR (stepR (runR (ops.take k)) ops[k]) := by
    rw [← runR_succ ops k h]
    unfold runR
    rw [← List.foldl_append, List.take_append_drop]
  have hl : (runR (ops.take k)).2.length = k := by rw [runR_len]; simp; omega
  have e2 : (runR ops).2 = ((runR (ops.take k)).2 ++ [doA (runR (ops.take k)).1 ops[k].1 ops[k].2.1]) ++ ((ops.drop (k + 1)).foldl stepR ((stepR (runR (ops.take k)) ops[k]).1, [])).2 := by
    rw [e, fold_ans]
    rfl
  have : (runR ops).2[k]? = some (doA (runR (ops.take k)).1 ops[k].1 ops[k].2.1) := by
    rw [e2, List.getElem?_append_left (by simp [hl]), List.getElem?_append_right (by omega), hl]
    simp
  rw [List.getElem?_eq_getElem (by rw [runR_len]; exact h)] at this
  exact Option.some.inj this

abbrev opO (kind key val : Int) : Obj := .cells #[I kind, I key, I val] 53
abbrev anO (a : An) : Obj := .cells #[I a.e, I a.k, I a.v, .bool a.b] 47

end Go.Proofs.YtolgncaaffmmnaaDoor
