/-
  package vine: Even.
-/
import Derived.Test.YtjonepkdkhhonaaVVine2
import Derived.Test.YtjonepkdkhhonaaVPress
namespace Go.Proofs.Ytjonepkdkhhonaa
open Go.RowKit

theorem ky_ks (t : Tr) (d : Int) (i : Nat) : ky (t.sp d) i = t.ks[i]?.getD 0 := by
  rw [← sp_ks t d]
  unfold ky
  rw [List.getElem?_map]
  cases (t.sp d)[i]? <;> rfl
theorem istree_ks {s t : Tr} (h : IsTree (t.sp 0)) (hk : s.ks = t.ks) : IsTree (s.sp 0) :=
  isTree_same h (by rw [sp_length, sp_length, ← ks_length, ← ks_length, hk]) (fun i => by rw [ky_ks, ky_ks, hk]) ⟨s, rfl⟩
theorem vnT_rsp : ∀ l : List Int, (vnT l).rsp = l.length
  | [] => rfl
  | k :: r => by simp [vnT, Tr.rsp, vnT_rsp r]

def RetE (L : PL) (up : Nat) (w : World) (e : Ending) (w' : World) : Prop := ∃ A c, e = .returned (.tuple #[.slice A L.length c, I up, I 0]) ∧ PS w' A L.length c L ∧ Below w.heap.size w w'

set_option maxRecDepth 100000 in
set_option maxHeartbeats 2000000 in
theorem EvenV_bad (A : Option Addr) (n c : Nat) (l : PL) (w : World) (h : PS w A n c l) (hn : n ≤ 9223372036854775807) (E : Int) (hE : chkS l = E) (hE0 : E ≠ 0) :
    Calls Try.prog 10 #[.slice A n c] w fun e w' => e = .returned (.tuple #[.slice none 0 0, I 0, I E]) ∧ Below w.heap.size w w' := by
  have HV := Lib.hid (vineOf_bad A n c l w h hn E hE hE0)
  have hq : (E != 0) = true := by simpa using hE0
  clear h hE hE0
  go_enter Try.func10, Try.ntmps10
  go_wp2_with fail
  refine HV.out.mono ?_
  rintro e w1 ⟨rfl, hb1⟩
  have HB1 := Lib.hid hb1
  have hz := hb1.size
  clear hb1
  go_wp2
  go_ret3
  exact ⟨rfl, HB1.out.alloc hz _⟩

set_option maxRecDepth 100000 in
set_option maxHeartbeats 4000000 in
theorem EvenV_ok (A : Option Addr) (n c j : Nat) (t : Tr) (w : World) (h : PS w A n c (t.sp 0)) (hT : IsTree (t.sp 0)) (h1 : 2 ^ j ≤ n + 1) (h2 : n + 1 < 2 ^ (j + 1)) :
    Calls Try.prog 10 #[.slice A n c] w (RetE ((evn j t.ks).sp 0) ((vks t).length + evUp j n) w) := by
  have hn : n ≤ 200 := by rw [← h.len]; exact hT.1
  have hsz : t.size = n := by rw [← sp_length t 0, h.len]
  have hkl : t.ks.length = n := by rw [ks_length, hsz]
  have HV := Lib.hid (vineOf_ok A n c t w h hT)
  have HT := Lib.hid hT
  have HTV := Lib.hid (istree_ks (s := vnT t.ks) hT (vnT_ks _))
  obtain ⟨M, hM⟩ : ∃ M, 2 ^ j - 1 = M := ⟨_, rfl⟩
  have hp := Nat.two_pow_pos j
  have hMn : M ≤ n := by omega
  have hM2 : n ≤ 2 * M := by rw [Nat.pow_succ] at h2; omega
  have HF : Hid (∀ W : World, Calls Try.prog 26 #[I n] W fun e w' => e = .returned (I (M : Int)) ∧ w' = W) := fun W => by
    have := fullUpTo_any n j W (by omega) h1 h2
    rw [hM] at this
    exact this
  have HVL := Lib.hid (vks_le t)
  rw [hsz] at HVL
  have HLN : Hid (((vnT t.ks).sp 0).length = n) := by show _ = _; rw [sp_length, ← ks_length, vnT_ks, hkl]
  have HRS : Hid ((vnT t.ks).rsp = n) := by show _ = _; rw [vnT_rsp, hkl]
  have HEV : Hid (prJ j (prs (n - M) (vnT t.ks)) = evn j t.ks) := by
    show _ = _
    unfold evn
    rw [hkl, show n + 1 - 2 ^ j = n - M by omega]
  have HUP : Hid (evUp j n = n - M + upJ j) := by
    show _ = _
    unfold evUp
    rw [show n + 1 - 2 ^ j = n - M by omega]
  have HEU := Lib.hid (evUp_le h1)
  have HMJ : Hid (M + 1 = 2 ^ j) := by show _ = _; omega
  have HKS : Hid ((vnT t.ks).ks = t.ks) := vnT_ks _
  have HEL : Hid (((evn j t.ks).sp 0).length = n) := by show _ = _; rw [sp_length, evn_size, hkl]
  have HEK : Hid ((evn j t.ks).ks = t.ks) := evn_ks j _
  clear h hT h1 h2 hM hp hkl hsz
  go_enter Try.func10, Try.ntmps10
  go_wp2_with fail
  refine HV.out.mono ?_
  rintro e w1 ⟨A1, c1, u1, rfl, hps1, hown1, hb1, hf1⟩
  obtain ⟨Au, cu, rfl, -, -⟩ := hown1.is_
  have hz1 := hb1.size
  have hvt1 := VT.new (w := w1) (base := w.heap.size) hz1 hps1 hown1 (fun h0 ad ha => hf1 h0 ad ha)
  rw [HLN.out] at hvt1 ⊢
  have HVT1 := Lib.hid hvt1
  have HB1 := Lib.hid (hb1.alloc hz1 (.cells #[.slice A1 n c1, .slice Au (vks t).length cu] 44))
  clear hps1 hown1 hf1 hvt1 hb1
  obtain ⟨mu, hmu⟩ : ∃ mu, (vks t).length = mu := ⟨_, rfl⟩
  rw [hmu] at HVT1 HB1 HVL ⊢
  have HMU := Lib.hid hmu
  clear hmu
  go_wp2_with fail
  refine (HF.out _).mono ?_
  rintro e w2 ⟨rfl, rfl⟩
  have hcast : IntKind.i64.wrap ((n : Int) - (M : Int)) = ((n - M : Nat) : Int) := by
    rw [show (n : Int) - (M : Int) = ((n - M : Nat) : Int) by omega]
    exact IntWalk.i64_in _ (by omega)
  have HPR := Lib.hid (press_any w.heap.size w1.heap.size (n - M) A1 c1 (.slice Au mu cu) (vnT t.ks) (vks t) _ HVT1.out HTV.out (by rw [HRS.out]; omega) (by rw [HMU.out]; have := HVL.out; omega))
  generalize w1.alloc (.cells #[.slice A1 n c1, .slice Au mu cu] 44) = w2 at *
  go_wp2_with fail
  refine HPR.out.mono ?_
  rintro e w3 ⟨rfl, ⟨A3, c3, u3, hvt3, -⟩, hb3⟩
  have HVT3 := Lib.hid hvt3
  have HB3 := Lib.hid (HB1.out.trans hb3)
  clear hvt3 hb3
  go_wp2
  go_loopg [7] n (fun k v wr => ∃ (i f : Nat) (s : Tr) (U : List Int) (A' : Option Addr) (c' : Nat) (u' : Value), v = .int .i64 f ∧ f + 1 = 2 ^ i ∧ f ≤ n ∧ f ≤ k ∧ prJ i s = evn j t.ks ∧ U.length + upJ i = mu + evUp j n ∧ f ≤ s.rsp ∧ s.ks = t.ks ∧ VT wr w.heap.size w1.heap.size A' c' u' (s.sp 0) U ∧ Below w.heap.size w wr)
  case atStart =>
    refine ⟨j, M, prs (n - M) (vnT t.ks), _, A3, c3, u3, rfl, HMJ.out, hMn, by omega, HEV.out, ?_, ?_, ?_, HVT3.out, HB3.out⟩
    · rw [List.length_append, HMU.out, prK_length _ _ (by rw [HRS.out]; omega), HUP.out]
      omega
    · have := prs_rsp (n - M) (vnT t.ks) (by rw [HRS.out]; omega)
      rw [HRS.out] at this
      omega
    · rw [prs_ks, HKS.out]
  case round =>
    obtain ⟨i, f, s, U, A', c', u', rfl, hf, hfn, hfk, hpj, hul, hfr, hks, hvt, hb⟩ := hrel
    have HPJ := Lib.hid hpj
    have HUL := Lib.hid hul
    have HKS2 := Lib.hid hks
    have HVT := Lib.hid hvt
    have HB := Lib.hid hb
    have HFF := Lib.hid hf
    have HFR := Lib.hid hfr
    have hsl : (s.sp 0).length = n := by rw [← HEL.out, sp_length, sp_length, ← ks_length, ← ks_length, HEK.out, hks]
    have HSL := Lib.hid hsl
    obtain ⟨Au', cu', rfl, -, -⟩ := hvt.own.is_
    have hblk := hvt.blk
    rw [hsl] at hblk
    obtain ⟨hq0, hq1⟩ := hblk.cells
    have hlq := hblk.lt
    obtain ⟨mU, hmU⟩ : ∃ mU, U.length = mU := ⟨_, rfl⟩
    rw [hmU] at hq1 hul HVT HUL
    have HMM := Lib.hid hmU
    clear hpj hks hvt hb hf hfr hsl hblk hmU
    by_cases hf1 : 1 < f
    · obtain ⟨i', rfl⟩ : ∃ i', i = i' + 2 := by
        have := HFF.out
        match i with
        | 0 => simp at this; omega
        | 1 => simp at this; omega
        | i' + 2 => exact ⟨i', rfl⟩
      obtain ⟨g, hg⟩ : ∃ g, 2 ^ (i' + 1) = g + 1 := ⟨2 ^ (i' + 1) - 1, by have := Nat.two_pow_pos (i' + 1); omega⟩
      have hfg : f = 2 * g + 1 := by have := HFF.out; rw [show i' + 2 = i' + 1 + 1 by omega, Nat.pow_succ, hg] at this; omega
      have HG := Lib.hid hg
      have HTS := Lib.hid (istree_ks (s := s) HT.out HKS2.out)
      have HPR2 := Lib.hid (press_any w.heap.size w1.heap.size g A' c' (.slice Au' mU cu') s U wr HVT.out HTS.out (by have := HFR.out; omega) (by rw [HMM.out]; have := HEU.out; have := HVL.out; omega))
      have HRR := Lib.hid (prs_rsp g s (by have := HFR.out; omega))
      have HKL := Lib.hid (prK_length g s (by have := HFR.out; omega))
      have HP2 : Hid (prJ (i' + 1) (prs g s) = evn j t.ks) := by
        have := HPJ.out
        rw [show prJ (i' + 2) s = prJ (i' + 1) (prs (2 ^ (i' + 1) - 1) s) from rfl, hg, Nat.add_sub_cancel] at this
        exact this
      have HU2 : Hid (mU + g + upJ (i' + 1) = mu + evUp j n) := by
        have := HUL.out
        rw [show upJ (i' + 2) = 2 ^ (i' + 1) - 1 + upJ (i' + 1) from rfl, hg, Nat.add_sub_cancel] at this
        show _ = _
        omega
      have hdiv : (f : Int) / 2 = g := by omega
      have hdiv2 : f / 2 = g := by omega
      have hdiv3 : Int.tdiv (f : Int) 2 = g := by rw [Int.tdiv_eq_ediv_of_nonneg (by omega)]; exact hdiv
      have hgn : g < f := by omega
      have hf1' : (1 : Int) < f := by omega
      clear hg hfg hul
      go_wp2_with fail
      refine HPR2.out.mono ?_
      rintro e w5 ⟨rfl, ⟨A5, c5, u5, hvt5, -⟩, hb5⟩
      have HVT5 := Lib.hid hvt5
      have HB5 := Lib.hid (HB.out.trans hb5)
      clear hvt5 hb5
      go_wp2
      go_roundg g
      case measure => omega
      case rel => exact ⟨i' + 1, g, prs g s, _, A5, c5, u5, rfl, HG.out.symm, by omega, Nat.le_refl _, HP2.out, by rw [List.length_append, HMM.out, HKL.out]; exact HU2.out, by have := HRR.out; have := HFR.out; omega, by rw [prs_ks]; exact HKS2.out, HVT5.out, HB5.out⟩
    · have hi1 : i = 0 ∨ i = 1 := by
        have := HFF.out
        match i with
        | 0 => exact .inl rfl
        | 1 => exact .inr rfl
        | i' + 2 =>
          rw [show i' + 2 = i' + 1 + 1 by omega, Nat.pow_succ, Nat.pow_succ] at this
          have := Nat.two_pow_pos i'
          omega
      have hends : s = evn j t.ks ∧ mU = mu + evUp j n := by
        have h1 := HPJ.out
        have h2 := HUL.out
        rcases hi1 with rfl | rfl
        · exact ⟨h1, by simpa [upJ] using h2⟩
        · exact ⟨h1, by simpa [upJ] using h2⟩
      obtain ⟨rfl, hmU2⟩ := hends
      have HMU2 := Lib.hid hmU2
      have hf1' : ¬ (1 : Int) < f := by omega
      have HPS := Lib.hid HVT.out.ps
      rw [HEL.out] at HPS
      clear hi1 hul hmU2
      go_wp2
      go_quiet (fail)
      go_wp2
      go_ret3
      refine ⟨A', c', ?_, by rw [HEL.out]; exact HPS.out.drewN _, below_drewN HB.out _⟩
      rw [HEL.out, HMU.out, ← HMU2.out]
      rfl

end Go.Proofs.Ytjonepkdkhhonaa
