/-
  slices' insertionSortCmpFunc of pairs, by ranks.
-/
import Derived.Test.YtcjhglejmmphbaaHSwap
namespace Go.Proofs.Ytcjhglejmmphbaa
open Go.RowKit

abbrev HKeys (l : PL) : Prop := l.Pairwise fun p q => p.1 < q.1
/-- the one that is put in has come to its place -/
theorem ins_ord {S P Q : PL} {k : Nat} (hk : k < S.length) (hr : HKeys S) (hM : (P ++ Q).Perm (S.take k)) (hO : Ord (P ++ Q)) (hq : ∀ q ∈ Q, q.2 < S[k].2) (hp : P = [] ∨ ∃ P' p, P = P' ++ [p] ∧ S[k].2 ≤ p.2) :
    (P ++ S[k] :: Q).Perm (S.take (k + 1)) ∧ Ord (P ++ S[k] :: Q) := by
  constructor
  · refine List.perm_middle.trans ?_
    rw [List.take_succ_eq_append_getElem hk]
    exact (hM.cons _).trans (List.perm_append_singleton _ _).symm
  · have hkey : ∀ p ∈ P, p.1 < S[k].1 := by
      intro p hpm
      obtain ⟨i, hi, e⟩ := List.getElem_of_mem (hM.mem_iff.1 (List.mem_append.2 (.inl hpm)))
      rw [List.getElem_take] at e
      rw [List.length_take] at hi
      rw [← e]
      exact List.pairwise_iff_getElem.1 hr i k (by omega) hk (by omega)
    refine ord_mid hO ?_ (fun q hqm => .inl (hq q hqm))
    rcases hp with rfl | ⟨P', p, rfl, hle⟩
    · intro p hpm
      simp at hpm
    · have hlast : Lx p S[k] := by
        have := hkey p (by simp)
        unfold Lx
        omega
      have hP := (List.pairwise_append.1 hO).1
      intro x hx
      rcases List.mem_append.1 hx with h | h
      · exact ((List.pairwise_append.1 hP).2.2 x h p (by simp)).trans hlast
      · simp only [List.mem_singleton] at h
        rw [h]
        exact hlast

/-- in order, behind X and ahead of Y -/
def RetOrd (g : Nat) (X S Y : PL) (w : World) (e : Ending) (w' : World) : Prop := ∃ M : PL, M.Perm S ∧ Ord M ∧ e = .returned (.tuple #[]) ∧ SB w' g 37 (X ++ M ++ Y) ∧ Below g w w'

set_option maxRecDepth 100000 in
set_option maxHeartbeats 8000000 in
theorem insSort_any (g c a b N : Nat) (X S Y : PL) (w : World) (h : SB w g 37 (X ++ S ++ Y)) (hN : (X ++ S ++ Y).length = N) (hc : N ≤ c) (hN2 : N ≤ 1000) (ha : a = X.length) (hb : b = X.length + S.length) (hr : HKeys S) :
    Calls Try.prog 41 #[.slice (some ⟨g, 0, none⟩) N c, I a, I b, fcmp] w (RetOrd g X S Y w) := by
  have H := Lib.hid h
  have HR := Lib.hid hr
  have HN := Lib.hid hN
  have HA := Lib.hid ha
  obtain ⟨s, hs⟩ : ∃ s, S.length = s := ⟨_, rfl⟩
  have HS := Lib.hid hs
  rw [hs] at hb
  rw [← ha] at hb
  have hb1 : b ≤ a + s := by omega
  have hb2 : a + s ≤ b := by omega
  have hbN : b ≤ N := by rw [← hN]; simp; omega
  clear h hr hN ha hb hs
  go_enter Try.func41, Try.ntmps41
  go_wp2
  go_loopg [8] 1000 (fun m i wr => ∃ (k : Nat) (M : PL), 1 ≤ k ∧ k ≤ s + 1 ∧ s + 1 - k ≤ m ∧ i = .int .i64 ((a + k : Nat) : Int) ∧ M.Perm (S.take k) ∧ Ord M ∧ SB wr g 37 (X ++ M ++ S.drop k ++ Y) ∧ Below g w wr)
  case atStart =>
    refine ⟨1, S.take 1, Nat.le_refl _, by omega, by omega, vint (by omega), List.Perm.refl _, ?_, ?_, Below.refl _ _⟩
    · cases S with
      | nil => simp
      | cons p t => simp
    · have e : X ++ S.take 1 ++ S.drop 1 ++ Y = X ++ S ++ Y := by rw [List.append_assoc X, List.take_append_drop]
      rw [e]
      exact H.out
  case round =>
    obtain ⟨k, M, hk1, hk2, hkm, rfl, hM, hO, hsb, hnx⟩ := hrel
    have HM := Lib.hid hM
    have HO := Lib.hid hO
    have HSB := Lib.hid hsb
    have HNX := Lib.hid hnx
    clear hM hO hsb hnx
    by_cases hlt : k < s
    · have hkS : k < S.length := by rw [HS.out]; exact hlt
      obtain ⟨R, hR⟩ : ∃ R, S.drop (k + 1) = R := ⟨_, rfl⟩
      obtain ⟨e0, he0⟩ : ∃ e0, S[k] = e0 := ⟨_, rfl⟩
      have HE : Hid (S.drop k = e0 :: R) := by show _ = _; rw [← hR, ← he0]; exact List.drop_eq_getElem_cons hkS
      have HINS : Hid (∀ P Q : PL, P ++ Q = M → (∀ q ∈ Q, q.2 < e0.2) → (P = [] ∨ ∃ P' p, P = P' ++ [p] ∧ e0.2 ≤ p.2) → (P ++ e0 :: Q).Perm (S.take (k + 1)) ∧ Ord (P ++ e0 :: Q)) := fun P Q h1 h2 h3 => by
        have := ins_ord (S := S) (P := P) (Q := Q) hkS HR.out (by rw [h1]; exact HM.out) (by rw [h1]; exact HO.out) (by rw [he0]; exact h2) (by rw [he0]; exact h3)
        rwa [he0] at this
      have HRL : Hid (R.length = s - (k + 1)) := by show _ = _; rw [← hR, List.length_drop, HS.out]
      have HRD := Lib.hid hR
      have HML : Hid (M.length = k) := by show _ = _; rw [HM.out.length_eq, List.length_take]; omega
      have HXL : Hid (X.length = a) := HA.out.symm
      have HYL : Hid (a + s + Y.length = N) := by show _ = _; rw [← HN.out, ← HXL.out, ← HS.out]; simp; omega
      clear hR he0 hkS
      obtain ⟨i0, hi0⟩ : ∃ i0, a + k = i0 := ⟨_, rfl⟩
      rw [hi0]
      have hi1 : i0 < b := by omega
      have hi2 : i0 ≤ a + k := by omega
      have HI0 := Lib.hid hi0
      clear hi0
      go_wp2
      go_loopg [9] 1000 (fun m x wr' => ∃ (P Q : PL) (j : Nat), P ++ Q = M ∧ j = a + P.length ∧ P.length < m ∧ x = .int .i64 (j : Int) ∧ (∀ q ∈ Q, q.2 < e0.2) ∧ SB wr' g 37 (X ++ P ++ e0 :: (Q ++ R ++ Y)) ∧ Below g w wr')
      case atStart =>
        refine ⟨M, [], i0, by simp, by rw [HML.out, HI0.out], by rw [HML.out]; omega, rfl, by simp, ?_, HNX.out⟩
        have := HSB.out
        rw [HE.out] at this
        simpa using this
      case round =>
        obtain ⟨P, Q, j, hPQ, hj, hPm, rfl, hQ, hsb, hny⟩ := hrel
        have hPl : P.length + Q.length = k := by rw [← HML.out, ← hPQ]; simp
        have HLEN : Hid ((X ++ P ++ e0 :: (Q ++ R ++ Y)).length = N) := by
          show _ = _
          have e1 := HXL.out
          have e2 := HRL.out
          have e3 := HYL.out
          simp
          omega
        have hjN : j < N := by omega
        have hej := hsb.cell j (by rw [HLEN.out]; exact hjN)
        have hpe : pr (X ++ P ++ e0 :: (Q ++ R ++ Y)) j = e0 := pr_mid (by rw [hj, ← HXL.out]; simp)
        have hke : ky (X ++ P ++ e0 :: (Q ++ R ++ Y)) j = e0.1 := congrArg Prod.fst hpe
        have hde : dp (X ++ P ++ e0 :: (Q ++ R ++ Y)) j = e0.2 := congrArg Prod.snd hpe
        rw [hke, hde] at hej
        obtain ⟨cj0, cj1⟩ := hej
        have hgs := hsb.lt
        have HPQ := Lib.hid hPQ
        have HQ := Lib.hid hQ
        have HSB2 := Lib.hid hsb
        have HNY := Lib.hid hny
        have hji : (j : Int) < (N : Int) := by omega
        have hj0 : (0 : Int) ≤ (j : Int) := by omega
        clear hpe hke hde hPQ hQ hsb hny
        by_cases hP0 : P.length = 0
        · have hP : P = [] := List.eq_nil_of_length_eq_zero hP0
          have hja : ¬ (a : Int) < (j : Int) := by omega
          have hjd : decide ((a : Int) < (j : Int)) = false := by simpa using hja
          have hjn : ¬ a < j := by omega
          have hjd2 : decide (a < j) = false := by simpa using hjn
          have HF := Lib.hid (HINS.out P Q HPQ.out HQ.out (.inl hP))
          have HSF : Hid (SB wr g 37 (X ++ (P ++ e0 :: Q) ++ S.drop (k + 1) ++ Y)) := by
            have := HSB2.out
            show SB _ _ _ _
            rw [HRD.out]
            simpa using this
          clear hP hP0 hj hja
          go_wp2
          go_quiet (fail)
          go_wp2
          go_roundg (s - k)
          case measure => omega
          case rel => exact ⟨k + 1, P ++ e0 :: Q, by omega, by omega, by omega, vint (by have := HI0.out; omega), HF.out.1, HF.out.2, HSF.out, below_drewN HNY.out _⟩
        · obtain ⟨P', p, hP⟩ : ∃ P' p, P = P' ++ [p] := ⟨P.dropLast, P.getLast (fun e => hP0 (by rw [e]; rfl)), (List.dropLast_concat_getLast _).symm⟩
          have hPl' : P.length = P'.length + 1 := by rw [hP]; simp
          obtain ⟨x, hx⟩ : ∃ x, a + P'.length = x := ⟨_, rfl⟩
          have hxj : x + 1 ≤ j := by omega
          have hjx : j ≤ x + 1 := by omega
          have hxN : x < N := by omega
          have hex := HSB2.out.cell x (by rw [HLEN.out]; exact hxN)
          have hL : X ++ P ++ e0 :: (Q ++ R ++ Y) = X ++ P' ++ p :: [] ++ e0 :: (Q ++ R ++ Y) := by rw [hP]; simp
          have hpx : pr (X ++ P ++ e0 :: (Q ++ R ++ Y)) x = p := by
            have e1 : X ++ P ++ e0 :: (Q ++ R ++ Y) = X ++ P' ++ p :: (e0 :: (Q ++ R ++ Y)) := by rw [hP]; simp
            rw [e1]
            exact pr_mid (by rw [← hx, ← HXL.out]; simp)
          have hkx : ky (X ++ P ++ e0 :: (Q ++ R ++ Y)) x = p.1 := congrArg Prod.fst hpx
          have hdx : dp (X ++ P ++ e0 :: (Q ++ R ++ Y)) x = p.2 := congrArg Prod.snd hpx
          rw [hkx, hdx] at hex
          obtain ⟨cx0, cx1⟩ := hex
          have hxi : (x : Int) < (N : Int) := by omega
          have hx0 : (0 : Int) ≤ (x : Int) := by omega
          have hwx : IntKind.i64.wrap ((j : Int) - 1) = (x : Int) := by have := IntWalk.i64_in ((j : Int) - 1) (by omega); rw [this]; omega
          have hja : (a : Int) < (j : Int) := by omega
          have hjn : a < j := by omega
          have hjd : decide (a < j) = true := by simpa using hjn
          have hcl : ∀ w2 : World, Below wr.heap.size wr w2 → w2.cell? ⟨g, j * 2, none⟩ = some (I e0.1) ∧ w2.cell? ⟨g, j * 2 + 1, none⟩ = some (I e0.2) ∧ w2.cell? ⟨g, x * 2, none⟩ = some (I p.1) ∧ w2.cell? ⟨g, x * 2 + 1, none⟩ = some (I p.2) := fun w2 hb => ⟨(hb.cell (by exact hgs)).trans cj0, (hb.cell (by exact hgs)).trans cj1, (hb.cell (by exact hgs)).trans cx0, (hb.cell (by exact hgs)).trans cx1⟩
          have HCL := Lib.hid hcl
          clear hcl
          by_cases hcmp : p.2 < e0.2
          · have HSW : Hid (∀ w2 : World, Below wr.heap.size wr w2 → SB (swW w2 g j x (e0.1, e0.2) (p.1, p.2)) g 37 (X ++ P' ++ e0 :: (p :: Q ++ R ++ Y))) := fun w2 hb => by
              have h1 := (HSB2.out.up hb).swap j x (by rw [HLEN.out]; exact hjN) (by rw [HLEN.out]; exact hxN)
              have hpj : pr (X ++ P ++ e0 :: (Q ++ R ++ Y)) j = e0 := pr_mid (by rw [hj, ← HXL.out]; simp)
              rw [hpx, hpj, sw_comm _ _ _ (by omega), hL, sw_dec (by rw [← hx, ← HXL.out]; simp) (by rw [← HXL.out] at hx; simp; omega)] at h1
              have e2 : X ++ P' ++ e0 :: [] ++ p :: (Q ++ R ++ Y) = X ++ P' ++ e0 :: (p :: Q ++ R ++ Y) := by simp
              rw [e2] at h1
              exact h1
            have HPQ2 : Hid (P' ++ (p :: Q) = M) := by show _ = _; rw [← HPQ.out, hP]; simp
            have HQ2 : Hid (∀ q ∈ p :: Q, q.2 < e0.2) := by
              intro q hq
              rcases List.mem_cons.1 hq with rfl | hq
              · exact hcmp
              · exact HQ.out q hq
            have HX := Lib.hid hx
            have HCM := Lib.hid hcmp
            have hPm' : P'.length + 1 < gk := by omega
            clear hP hL hpx hkx hdx hP0 hPl' hPm hPl hj hx hcmp hjx
            go_wp2
            go_region_held3 (fun W => W.cell? ⟨g, j * 2, none⟩ = some (I e0.1) ∧ W.cell? ⟨g, j * 2 + 1, none⟩ = some (I e0.2) ∧ W.cell? ⟨g, x * 2, none⟩ = some (I p.1) ∧ W.cell? ⟨g, x * 2 + 1, none⟩ = some (I p.2))
              (first
                | exact ⟨d0, d1, d2, d3⟩
                | exact ⟨cj0, cj1, cx0, cx1⟩)
              (first
                | (go_at_call 19
                   refine (hcmp_t e0 p _ HCM.out).mono ?_
                   rintro e w2 ⟨rfl, hb2⟩
                   have hb2' : Below wr.heap.size wr w2 := (Below.refl _ _).drew.trans hb2
                   obtain ⟨d0, d1, d2, d3⟩ := HCL.out w2 hb2'
                   have hs2 := HSB2.out.up hb2'
                   have f0 : w2.frozen? ⟨g, j * 2, none⟩ = false := hs2.frozen _
                   have f1 : w2.frozen? ⟨g, j * 2 + 1, none⟩ = false := hs2.frozen _
                   have f2 : w2.frozen? ⟨g, x * 2, none⟩ = false := hs2.frozen _
                   have f3 : w2.frozen? ⟨g, x * 2 + 1, none⟩ = false := hs2.frozen _
                   have hg2 : g < w2.heap.size := hs2.lt
                   have HB2 := Lib.hid hb2'
                   clear hb2 hb2' hs2))
            clear cj0 cj1 cx0 cx1
            go_wp2
            go_region
            have HS := Lib.hid (show SB (swW w2 g j x (e0.1, e0.2) (p.1, p.2)).drew g 37 (X ++ P' ++ e0 :: (p :: Q ++ R ++ Y)) from HSW.out w2 HB2.out)
            have HBW := Lib.hid (show Below g w (swW w2 g j x (e0.1, e0.2) (p.1, p.2)).drew from (below_swW (HNY.out.trans (HB2.out.mono (Nat.le_of_lt hgs))) (Nat.le_refl _)).drew)
            rw [← swW_eq]
            clear d0 d1 d2 d3 f0 f1 f2 f3 HSW HCL
            generalize (swW w2 g j x (e0.1, e0.2) (p.1, p.2)).drew = W at *
            go_wp2
            go_roundg (gk - 1)
            case measure => omega
            case rel => exact ⟨P', p :: Q, x, HPQ2.out, HX.out.symm, by omega, rfl, HQ2.out, HS.out, HBW.out⟩
          · have HF := Lib.hid (HINS.out P Q HPQ.out HQ.out (.inr ⟨P', p, hP, by omega⟩))
            have HSF : Hid (SB wr g 37 (X ++ (P ++ e0 :: Q) ++ S.drop (k + 1) ++ Y)) := by
              have := HSB2.out
              show SB _ _ _ _
              rw [HRD.out]
              simpa using this
            have HCM := Lib.hid hcmp
            clear hP hL hpx hkx hdx hP0 hPl' hPm hPl hj hx hcmp hjx
            go_wp2
            go_region_held3 (fun W => W.cell? ⟨g, j * 2, none⟩ = some (I e0.1) ∧ W.cell? ⟨g, j * 2 + 1, none⟩ = some (I e0.2) ∧ W.cell? ⟨g, x * 2, none⟩ = some (I p.1) ∧ W.cell? ⟨g, x * 2 + 1, none⟩ = some (I p.2))
              (first
                | exact ⟨d0, d1, d2, d3⟩
                | exact ⟨cj0, cj1, cx0, cx1⟩)
              (first
                | (go_at_call 19
                   refine (hcmp_f e0 p _ (by have := HCM.out; omega)).mono ?_
                   rintro e w2 ⟨r, hr, rfl, hb2⟩
                   have hb2' : Below wr.heap.size wr w2 := (Below.refl _ _).drew.trans hb2
                   obtain ⟨d0, d1, d2, d3⟩ := HCL.out w2 hb2'
                   have hrn : ¬ r < 0 := by omega
                   have HB2 := Lib.hid hb2'
                   clear hb2 hb2'))
            clear cj0 cj1 cx0 cx1 d0 d1 d2 d3 HCL
            have HBW := Lib.hid (HNY.out.trans (HB2.out.mono (Nat.le_of_lt hgs)))
            have HSF2 := Lib.hid (HSF.out.up HB2.out)
            go_wp2
            go_roundg (s - k)
            case measure => omega
            case rel => exact ⟨k + 1, P ++ e0 :: Q, by omega, by omega, by omega, vint (by have := HI0.out; omega), HF.out.1, HF.out.2, HSF2.out, HBW.out⟩
    · go_wp2
      go_end0
      refine ⟨M, ?_, HO.out, rfl, ?_, HNX.out⟩
      · have := HM.out
        rwa [List.take_of_length_le (by rw [HS.out]; omega)] at this
      · have := HSB.out
        rw [List.drop_of_length_le (by rw [HS.out]; omega), List.append_nil] at this
        exact this

end Go.Proofs.Ytcjhglejmmphbaa
