/-
  The walk of the law BestMore.
-/
import Derived.Test.YtconegligedniaaBNum
import Derived.Test.YtconegligedniaaGInts
namespace Go.Proofs.Ytconegligedniaa
open Go.RowKit

theorem lc_times {hits gaps : List Int} {n : Nat} {t : Int} (ht : 0 ≤ t) : lc (wij (hits.map (· * t)) (gaps.map (· * t))) 0 n = lc (wij hits gaps) 0 n * t := by
  have h1 := (lc_min (wij hits gaps) n).times ht
  have h2 := lc_min (wij (hits.map (· * t)) (gaps.map (· * t))) n
  exact h2.same h1 (fun i j _ _ => wij_times hits gaps t i (j - i)) 0 n (Nat.zero_le _) (Nat.le_refl _)
theorem trC_times {hits gaps : List Int} (hc : chkB hits gaps = 0) {t : Int} (ht : 0 ≤ t) (hc' : chkB (hits.map (· * t)) (gaps.map (· * t)) = 0) : trC (hits.map (· * t)) (gaps.map (· * t)) = trC hits gaps * t := by
  unfold trC
  rw [if_pos hc, if_pos hc', List.length_map]
  exact lc_times ht
theorem wij_set2 {hits gaps : List Int} {x : Nat} {m : Int} (hx : x < hits.length) {i j : Nat} (hij : i < j) : wij (hits.set x (hits[x] + m)) gaps i j = wij hits gaps i j + (if i ≤ x ∧ x < j then m else 0) := by
  have := wij_set hits gaps x m hx i (j - i)
  rw [show i + (j - i) = j by omega] at this
  exact this
theorem trC_set {hits gaps : List Int} (hc : chkB hits gaps = 0) {x : Nat} {m : Int} (hx : x < hits.length) (hm : 0 ≤ m) (hc' : chkB (hits.set x (hits[x] + m)) gaps = 0) :
    trC hits gaps ≤ trC (hits.set x (hits[x] + m)) gaps ∧ trC (hits.set x (hits[x] + m)) gaps ≤ trC hits gaps + m * (hits.length : Int) := by
  unfold trC
  rw [if_pos hc, if_pos hc', List.length_set]
  have h1 := lc_min (wij hits gaps) hits.length
  have h2 := lc_min (wij (hits.set x (hits[x] + m)) gaps) hits.length
  refine ⟨h1.mono h2 (fun i j hij _ => ?_) hits.length 0 hits.length (by omega) (Nat.zero_le _) (Nat.le_refl _), ?_⟩
  · rw [wij_set2 hx hij]
    split <;> omega
  · have := h1.more hm h2 (fun i j hij _ => wij_set2 hx hij) hits.length 0 hits.length (by omega) (Nat.zero_le _) (Nat.le_refl _)
    rw [if_pos ⟨Nat.zero_le _, hx⟩] at this
    simpa using this

theorem OwnI.put {w : World} {base : Nat} {v : Value} {L : List Int} (h : OwnI w base v L) {k : Nat} (hk : k < L.length) (x : Int) :
    ∃ g c, v = .slice (some ⟨g, 0, none⟩) L.length c ∧ base ≤ g ∧ w.cell? ⟨g, k, none⟩ = some (I L[k]) ∧ w.frozen? ⟨g, k, none⟩ = false ∧ OwnI (w.setCell ⟨g, k, none⟩ (I x)) base v (L.set k x) := by
  rcases h.2 with ⟨_, h0⟩ | ⟨g, cap, cur, rfl, hb, hg, hnc, hmx, hsz, htk⟩
  · omega
  · have hcl : cur.toList[k]? = some (I L[k]) := by
      have : (L.map I)[k]? = some (I L[k]) := by simp [List.getElem?_eq_getElem hk]
      rw [← htk, List.getElem?_take, if_pos (by omega)] at this
      exact this
    refine ⟨g, cap, rfl, hb, ?_, by simp [World.frozen?, hg], ?_⟩
    · rw [cell_of_row _ _ _ _ _ _ hg]
      simpa using hcl
    · refine ⟨by simp, .inr ⟨g, cap, cur.setIfInBounds k (I x), by simp, hb, ?_, by simpa using hnc, hmx, by simpa using hsz, ?_⟩⟩
      · rw [setCell_eq_setRow w g k _ _ (0, 0) (I x) hg, setRow_heap w g _ _ _ (0, 0) hg]
      · rw [Array.toList_setIfInBounds, List.take_set]
        rw [show L.set k x = L.set k x from rfl, List.map_set]
        simp only [List.length_set] at *
        rw [htk]

set_option maxRecDepth 100000 in
set_option maxHeartbeats 4000000 in
theorem bmore_bad (A A' : Option Addr) (n c n' c' : Nat) (k more times : Int) (w : World) (hits gaps : List Int) (h : IS w A n c hits) (hn : n ≤ 9223372036854775807) (h' : IS w A' n' c' gaps) (hn' : n' ≤ 9223372036854775807)
    (hbad : ¬ (chkB hits gaps = 0 ∧ 0 ≤ k ∧ k < n ∧ 0 ≤ more ∧ more ≤ 1000 ∧ 0 ≤ times ∧ times ≤ 1000)) :
    Calls Try.prog 6 #[.slice A n c, .slice A' n' c', I k, I more, I times] w (YesB w) := by
  have HT := Lib.hid (TreeB_num A A' n c n' c' hits gaps w h h' hn hn')
  clear h h'
  have hE := chkB_le hits gaps
  generalize trC hits gaps = x at *
  generalize chkB hits gaps = E at *
  by_cases d0 : E = 0
  · subst d0
    have hz : ((0 : Int) != 0) = false := rfl
    by_cases d1 : k < 0
    · clear hbad
      go_enter Try.func6, Try.ntmps6
      go_wp2_with fail
      refine HT.out.mono ?_
      rintro e w1 ⟨A1, m1, c1, rfl, _, hb1⟩
      have HB1 := Lib.hid hb1
      clear hb1
      go_wp2_with fail
      refine (bestLives_any w1).mono ?_
      rintro e w2 ⟨rfl, hb2⟩
      have HB2 := Lib.hid (below_next HB1.out hb2)
      clear hb2
      go_wp2_with fail
      refine (bestLives_any w2).mono ?_
      rintro e w3 ⟨rfl, hb3⟩
      have HB3 := Lib.hid (below_next HB2.out hb3)
      clear hb3
      go_wp2
      go_ret
      exact ⟨rfl, HB3.out⟩
    · skip
      by_cases d2 : (n : Int) ≤ k
      · clear hbad
        go_enter Try.func6, Try.ntmps6
        go_wp2_with fail
        refine HT.out.mono ?_
        rintro e w1 ⟨A1, m1, c1, rfl, _, hb1⟩
        have HB1 := Lib.hid hb1
        clear hb1
        go_wp2_with fail
        refine (bestLives_any w1).mono ?_
        rintro e w2 ⟨rfl, hb2⟩
        have HB2 := Lib.hid (below_next HB1.out hb2)
        clear hb2
        go_wp2_with fail
        refine (bestLives_any w2).mono ?_
        rintro e w3 ⟨rfl, hb3⟩
        have HB3 := Lib.hid (below_next HB2.out hb3)
        clear hb3
        go_wp2
        go_ret
        exact ⟨rfl, HB3.out⟩
      · skip
        by_cases d3 : more < 0
        · clear hbad
          go_enter Try.func6, Try.ntmps6
          go_wp2_with fail
          refine HT.out.mono ?_
          rintro e w1 ⟨A1, m1, c1, rfl, _, hb1⟩
          have HB1 := Lib.hid hb1
          clear hb1
          go_wp2_with fail
          refine (bestLives_any w1).mono ?_
          rintro e w2 ⟨rfl, hb2⟩
          have HB2 := Lib.hid (below_next HB1.out hb2)
          clear hb2
          go_wp2_with fail
          refine (bestLives_any w2).mono ?_
          rintro e w3 ⟨rfl, hb3⟩
          have HB3 := Lib.hid (below_next HB2.out hb3)
          clear hb3
          go_wp2
          go_ret
          exact ⟨rfl, HB3.out⟩
        · skip
          by_cases d4 : 1000 < more
          · clear hbad
            go_enter Try.func6, Try.ntmps6
            go_wp2_with fail
            refine HT.out.mono ?_
            rintro e w1 ⟨A1, m1, c1, rfl, _, hb1⟩
            have HB1 := Lib.hid hb1
            clear hb1
            go_wp2_with fail
            refine (bestLives_any w1).mono ?_
            rintro e w2 ⟨rfl, hb2⟩
            have HB2 := Lib.hid (below_next HB1.out hb2)
            clear hb2
            go_wp2_with fail
            refine (bestLives_any w2).mono ?_
            rintro e w3 ⟨rfl, hb3⟩
            have HB3 := Lib.hid (below_next HB2.out hb3)
            clear hb3
            go_wp2
            go_ret
            exact ⟨rfl, HB3.out⟩
          · skip
            by_cases d5 : times < 0
            · clear hbad
              go_enter Try.func6, Try.ntmps6
              go_wp2_with fail
              refine HT.out.mono ?_
              rintro e w1 ⟨A1, m1, c1, rfl, _, hb1⟩
              have HB1 := Lib.hid hb1
              clear hb1
              go_wp2_with fail
              refine (bestLives_any w1).mono ?_
              rintro e w2 ⟨rfl, hb2⟩
              have HB2 := Lib.hid (below_next HB1.out hb2)
              clear hb2
              go_wp2_with fail
              refine (bestLives_any w2).mono ?_
              rintro e w3 ⟨rfl, hb3⟩
              have HB3 := Lib.hid (below_next HB2.out hb3)
              clear hb3
              go_wp2
              go_ret
              exact ⟨rfl, HB3.out⟩
            · skip
              by_cases d6 : 1000 < times
              · clear hbad
                go_enter Try.func6, Try.ntmps6
                go_wp2_with fail
                refine HT.out.mono ?_
                rintro e w1 ⟨A1, m1, c1, rfl, _, hb1⟩
                have HB1 := Lib.hid hb1
                clear hb1
                go_wp2_with fail
                refine (bestLives_any w1).mono ?_
                rintro e w2 ⟨rfl, hb2⟩
                have HB2 := Lib.hid (below_next HB1.out hb2)
                clear hb2
                go_wp2_with fail
                refine (bestLives_any w2).mono ?_
                rintro e w3 ⟨rfl, hb3⟩
                have HB3 := Lib.hid (below_next HB2.out hb3)
                clear hb3
                go_wp2
                go_ret
                exact ⟨rfl, HB3.out⟩
              · exact absurd ⟨rfl, by omega, by omega, by omega, by omega, by omega, by omega⟩ hbad
  · have hb1 : (E != 0) = true := by simpa using d0
    clear d0
    clear hbad
    go_enter Try.func6, Try.ntmps6
    go_wp2_with fail
    refine HT.out.mono ?_
    rintro e w1 ⟨A1, m1, c1, rfl, _, hb1⟩
    have HB1 := Lib.hid hb1
    clear hb1
    go_wp2_with fail
    refine (bestLives_any w1).mono ?_
    rintro e w2 ⟨rfl, hb2⟩
    have HB2 := Lib.hid (below_next HB1.out hb2)
    clear hb2
    go_wp2_with fail
    refine (bestLives_any w2).mono ?_
    rintro e w3 ⟨rfl, hb3⟩
    have HB3 := Lib.hid (below_next HB2.out hb3)
    clear hb3
    go_wp2
    go_ret
    exact ⟨rfl, HB3.out⟩

theorem mul_bd3 {x y a b : Int} (h1 : 0 ≤ x ∧ x ≤ a) (h2 : 0 ≤ y ∧ y ≤ b) (hb : 0 ≤ b) : 0 ≤ x * y ∧ x * y ≤ a * b := by
  refine ⟨Int.mul_nonneg h1.1 h2.1, ?_⟩
  have c1 := Int.mul_le_mul_of_nonneg_right h1.2 h2.1
  have c2 := Int.mul_le_mul_of_nonneg_left h2.2 (show 0 ≤ a by omega)
  omega

set_option maxRecDepth 100000 in
set_option maxHeartbeats 4000000 in
theorem bmore_ok (A A' : Option Addr) (n c c' k : Nat) (more times : Int) (w : World) (hits gaps : List Int) (h : IS w A n c hits) (h' : IS w A' (n + 1) c' gaps) (hI : InB hits gaps n) (hk : k < n) (hm0 : 0 ≤ more) (hm1 : more ≤ 1000) (ht0 : 0 ≤ times) (ht1 : times ≤ 1000) :
    Calls Try.prog 6 #[.slice A n c, .slice A' (n + 1) c', I k, I more, I times] w (YesB w) := by
  have hn := hI.n20
  have hc := chkB_in hI
  have HT := Lib.hid (TreeB_num A A' n c (n + 1) c' hits gaps w h h' (by omega) (by omega))
  rw [hc] at HT
  have H := Lib.hid h
  have H' := Lib.hid h'
  have HL := Lib.hid hI.h
  have HL' := Lib.hid hI.g
  have hkl : k < hits.length := by rw [hI.h]; exact hk
  have hu := hI.hh _ (List.getElem_mem hkl)
  have HB1 : Hid (∀ q (hq : q < hits.length), 0 ≤ hits[q] ∧ hits[q] ≤ 1000) := fun q hq => hI.hh _ (List.getElem_mem hq)
  have HB2 : Hid (∀ q (hq : q < gaps.length), 0 ≤ gaps[q] ∧ gaps[q] ≤ 1000) := fun q hq => hI.hg _ (List.getElem_mem hq)
  have hF := @trC_set hits gaps hc k more hkl hm0
  have hG := @trC_times hits gaps hc times ht0
  have hxb := trC_bd hits gaps
  rw [hI.h] at hF
  obtain ⟨x, hx⟩ : ∃ x, trC hits gaps = x := ⟨_, rfl⟩
  rw [hx] at hF hG hxb HT
  obtain ⟨hits', hh'⟩ : ∃ hits', hits.set k (hits[k] + more) = hits' := ⟨_, rfl⟩
  rw [hh'] at hF
  have HH' := Lib.hid hh'
  have hl' : hits'.length = n := by rw [← hh', List.length_set, hI.h]
  have HT2 : Hid (∀ W A1 c1, IS W A1 n c1 hits' → IS W A' (n + 1) c' gaps → Calls Try.prog 9 #[.slice A1 n c1, .slice A' (n + 1) c'] W (RetN (trC hits' gaps) (chkB hits' gaps) W)) := fun W A1 c1 h1 h2 => TreeB_num A1 A' n c1 (n + 1) c' _ _ W h1 h2 (by omega) (by omega)
  have HT3 : Hid (∀ W A1 A2 c1 c2, IS W A1 n c1 (hits.map (· * times)) → IS W A2 (n + 1) c2 (gaps.map (· * times)) → Calls Try.prog 9 #[.slice A1 n c1, .slice A2 (n + 1) c2] W (RetN (trC (hits.map (· * times)) (gaps.map (· * times))) (chkB (hits.map (· * times)) (gaps.map (· * times))) W)) := fun W A1 A2 c1 c2 h1 h2 => TreeB_num A1 A2 n c1 (n + 1) c2 _ _ W h1 h2 (by omega) (by omega)
  obtain ⟨y, hy⟩ : ∃ y, trC hits' gaps = y := ⟨_, rfl⟩
  obtain ⟨F, hFF⟩ : ∃ F, chkB hits' gaps = F := ⟨_, rfl⟩
  obtain ⟨z, hz⟩ : ∃ z, trC (hits.map (· * times)) (gaps.map (· * times)) = z := ⟨_, rfl⟩
  obtain ⟨G, hGG⟩ : ∃ G, chkB (hits.map (· * times)) (gaps.map (· * times)) = G := ⟨_, rfl⟩
  rw [hy, hFF] at hF HT2
  rw [hz, hGG] at hG HT3
  have hP := mul_bd3 (x := more) (y := (n : Int)) (a := 1000) (b := 20) ⟨hm0, hm1⟩ ⟨by omega, by omega⟩ (by omega)
  have hQ := mul_bd3 (x := x) (y := times) (a := 1000000) (b := 1000) hxb ⟨ht0, ht1⟩ (by omega)
  obtain ⟨P, hPe⟩ : ∃ P, more * (n : Int) = P := ⟨_, rfl⟩
  obtain ⟨Q, hQe⟩ : ∃ Q, x * times = Q := ⟨_, rfl⟩
  rw [hPe] at hP hF
  rw [hQe] at hQ hG
  have e1 : IntKind.i64.wrap (more * (n : Int)) = P := by rw [hPe]; exact IntWalk.i64_in _ (by omega)
  have e2 : IntKind.i64.wrap (x + P) = x + P := IntWalk.i64_in _ (by omega)
  have e3 : IntKind.i64.wrap (x * times) = Q := by rw [hQe]; exact IntWalk.i64_in _ (by omega)
  have HF := Lib.hid hF
  have HG := Lib.hid hG
  have HL2 := Lib.hid hl'
  have HIG : Hid (gaps.length = n + 1) := hI.g
  clear hF hG hc h h' hI hx hh' hy hFF hz hGG hPe hQe hl'
  have hz0 : ((0 : Int) != 0) = false := rfl
  have g1 : ¬ ((k : Int) < 0) := by omega
  have g2 : ¬ ((n : Int) ≤ (k : Int)) := by omega
  have g3 : ¬ (more < 0) := by omega
  have g4 : ¬ (1000 < more) := by omega
  have g5 : ¬ (times < 0) := by omega
  have g6 : ¬ (1000 < times) := by omega
  obtain ⟨u, hue⟩ : ∃ u, hits[k] = u := ⟨_, rfl⟩
  rw [hue] at hu
  have HU := Lib.hid hue
  have e4 : IntKind.i64.wrap (u + more) = u + more := IntWalk.i64_in _ (by omega)
  clear hue
  go_enter Try.func6, Try.ntmps6
  go_wp2_with fail
  refine HT.out.mono ?_
  rintro e w1 ⟨A1, m1, c1, rfl, _, hb1⟩
  have HBL1 := Lib.hid hb1
  clear hb1
  go_wp2_with fail
  refine (bestLives_any w1).mono ?_
  rintro e w2 ⟨rfl, hb2⟩
  have HBL2 := Lib.hid (below_next HBL1.out hb2)
  clear hb2
  go_wp2_with fail
  refine (cloneI_any A n c hits w2 (H.out.below HBL2.out) (by omega)).mono ?_
  rintro e w3 ⟨v3, rfl, hown3, hb3⟩
  obtain ⟨g, cc, rfl, hbase, hcell, hfz, hput⟩ := hown3.put hkl (u + more)
  rw [HU.out] at hcell
  have hput2 : OwnI (w3.setCell ⟨g, k, none⟩ (I (u + more))) w2.heap.size (.slice (some ⟨g, 0, none⟩) n cc) hits' := by
    have hq := HH'.out
    rw [HU.out] at hq
    rw [hq, HL.out] at hput
    exact hput
  rw [HL.out]
  have hbl3 : Below w.heap.size w (w3.setCell ⟨g, k, none⟩ (I (u + more))) := (below_next HBL2.out hb3).setCell (by have := HBL2.out.size; show w.heap.size ≤ g; omega) _
  have HBL3 := Lib.hid hbl3
  have HO3 := Lib.hid hput2
  clear hown3 hb3 hbl3 hput hput2 hbase
  go_wp2_with fail
  obtain ⟨w4, hw4⟩ : ∃ w4, w3.setCell ⟨g, k, none⟩ (I (u + more)) = w4 := ⟨_, rfl⟩
  rw [hw4] at HBL3 HO3 ⊢
  clear hw4 hcell hfz
  have his4 : IS w4 (some ⟨g, 0, none⟩) n cc hits' := by
    obtain ⟨A4, c4, e4, hi4, _⟩ := HO3.out.is_
    injection e4 with ea eb ec
    subst ea ec
    rw [HL2.out] at hi4
    exact hi4
  refine (HT2.out w4 _ _ his4 (H'.out.below HBL3.out)).mono ?_
  rintro e w5 ⟨A5, m5, c5, rfl, _, hb5⟩
  have HBL5 := Lib.hid (below_next HBL3.out hb5)
  clear hb5 his4 HO3
  obtain ⟨i0, hi, hz0', hz1, hz2⟩ := info_parts int_info
  have HI := Lib.hid hi
  have HZ0 := Lib.hid hz0'
  have HZ1 := Lib.hid hz1
  have HZ2 := Lib.hid hz2
  clear hi hz0' hz1 hz2
  go_wp2
  go_loopw [18, 85] (fun v i wr => ∃ j : Nat, j ≤ n ∧ i = .int .i64 j ∧ OwnI wr w5.heap.size v ((hits.take j).map (· * times)) ∧ Below w5.heap.size w5 wr) (fun _ i _ => n - (intOf i).toNat)
  case atStart => exact ⟨0, Nat.zero_le _, rfl, World.ownsRow_nil _ _ _ _, Below.refl _ _⟩
  case round =>
    obtain ⟨j, hj, rfl, hown, hnx⟩ := hrel
    have hz5 := hnx.size
    by_cases hlt : j < n
    · have hjl : j < hits.length := by rw [HL.out]; exact hlt
      obtain ⟨b, off, rfl, hbw, hcs⟩ := ((H.out.below HBL5.out).below hnx).at_ (by omega)
      have hc0 := hcs j hlt
      have hub := HB1.out j hjl
      have HK : Hid ((hits.take (j + 1)).map (· * times) = (hits.take j).map (· * times) ++ [hits[j] * times]) := by show _ = _; rw [List.take_succ_eq_append_getElem hjl, List.map_append]; rfl
      generalize hits[j] = q at *
      have hqt := mul_bd3 (x := q) (y := times) (a := 1000) (b := 1000) hub ⟨ht0, ht1⟩ (by omega)
      obtain ⟨R, hR⟩ : ∃ R, q * times = R := ⟨_, rfl⟩
      rw [hR] at hqt HK
      have e5 : IntKind.i64.wrap (q * times) = R := by rw [hR]; exact IntWalk.i64_in _ (by omega)
      obtain ⟨xs, hxs⟩ : ∃ xs, (hits.take j).map (· * times) = xs := ⟨_, rfl⟩
      have hxl : xs.length ≤ 20 := by rw [← hxs]; simp; omega
      rw [hxs] at hown HK
      have HOWN := Lib.hid hown
      have HNX := Lib.hid hnx
      clear hcs hown hnx hxs hR
      go_wp2_with (first
        | (at_builtin
           refine wpList_append_own_at _ rfl (.tmp 89) (.tmp 93) 23 rfl w5.heap.size 3 i0 _ 1 8 Try.underlying23 HI.out HZ0.out HZ1.out HZ2.out rfl (by omega) _ xs.length (xs.map I) rfl (own_below HOWN.out ((Below.refl _ _).alloc (Nat.le_refl _) _)) ⟨wr.heap.size, 0, none⟩ 1 1 [I R] rfl rfl (cell_one_new _ _ _) (one_I R) (by unfold maxLen; omega) (by omega) (by simp; omega) ?_
           intro v2 w7 hown2 hgrow2 _ hat2)
        | fail)
      go_roundw
      case rel =>
        refine ⟨j + 1, by omega, by go_num, ?_, ?_⟩
        · rw [HK.out]
          unfold OwnI
          simpa using hown2
        · exact Below.grown (HNX.out.alloc hz5 _) hgrow2 (by simp; omega) (own_ge1 HOWN.out)
      case measure => simp [intOf]; omega
    · obtain rfl : j = n := by omega
      rw [List.take_of_length_le (by rw [HL.out]; exact Nat.le_refl _)] at hown
      obtain ⟨A6, c6, rfl, his6, _⟩ := hown.is_
      rw [List.length_map, HL.out] at his6 ⊢
      have HI6 := Lib.hid his6
      have HBL6 := Lib.hid (below_next HBL5.out hnx)
      clear hown his6 hnx hz5
      go_wp2
      generalize wr = w6 at *
      go_loopw [19, 98] (fun v i wr => ∃ i2 : Nat, i2 ≤ j + 1 ∧ i = .int .i64 i2 ∧ OwnI wr w6.heap.size v ((gaps.take i2).map (· * times)) ∧ Below w6.heap.size w6 wr) (fun _ i _ => j + 1 - (intOf i).toNat)
      case atStart => exact ⟨0, Nat.zero_le _, rfl, World.ownsRow_nil _ _ _ _, Below.refl _ _⟩
      case round =>
        obtain ⟨i2, hi2, rfl, hown, hnx⟩ := hrel
        have hz6 := hnx.size
        by_cases hlt2 : i2 < j + 1
        · have hjl : i2 < gaps.length := by rw [HIG.out]; exact hlt2
          obtain ⟨b, off, rfl, hbw, hcs⟩ := ((H'.out.below HBL6.out).below hnx).at_ (by omega)
          have hc0 := hcs i2 hlt2
          have hub := HB2.out i2 hjl
          have HK : Hid ((gaps.take (i2 + 1)).map (· * times) = (gaps.take i2).map (· * times) ++ [gaps[i2] * times]) := by show _ = _; rw [List.take_succ_eq_append_getElem hjl, List.map_append]; rfl
          generalize gaps[i2] = q at *
          have hqt := mul_bd3 (x := q) (y := times) (a := 1000) (b := 1000) hub ⟨ht0, ht1⟩ (by omega)
          obtain ⟨R, hR⟩ : ∃ R, q * times = R := ⟨_, rfl⟩
          rw [hR] at hqt HK
          have e5 : IntKind.i64.wrap (q * times) = R := by rw [hR]; exact IntWalk.i64_in _ (by omega)
          obtain ⟨xs, hxs⟩ : ∃ xs, (gaps.take i2).map (· * times) = xs := ⟨_, rfl⟩
          have hxl : xs.length ≤ 21 := by rw [← hxs]; simp; omega
          rw [hxs] at hown HK
          have HOWN := Lib.hid hown
          have HNX := Lib.hid hnx
          have hlt3 : (i2 : Int) < (j : Int) + 1 := by omega
          clear hcs hown hnx hxs hR
          go_wp2_with (first
            | (at_builtin
               refine wpList_append_own_at _ rfl (.tmp 102) (.tmp 106) 23 rfl w6.heap.size 3 i0 _ 1 8 Try.underlying23 HI.out HZ0.out HZ1.out HZ2.out rfl (by omega) _ xs.length (xs.map I) rfl (own_below HOWN.out ((Below.refl _ _).alloc (Nat.le_refl _) _)) ⟨wr.heap.size, 0, none⟩ 1 1 [I R] rfl rfl (cell_one_new _ _ _) (one_I R) (by unfold maxLen; omega) (by omega) (by simp; omega) ?_
               intro v2 w7 hown2 hgrow2 _ hat2)
            | fail)
          go_roundw
          case rel =>
            refine ⟨i2 + 1, by omega, by go_num, ?_, ?_⟩
            · rw [HK.out]
              unfold OwnI
              simpa using hown2
            · exact Below.grown (HNX.out.alloc hz6 _) hgrow2 (by simp; omega) (own_ge1 HOWN.out)
          case measure => simp [intOf]; omega
        · obtain rfl : i2 = j + 1 := by omega
          rw [List.take_of_length_le (by rw [HIG.out]; exact Nat.le_refl _)] at hown
          obtain ⟨A7, c7, rfl, his7, _⟩ := hown.is_
          rw [List.length_map, HIG.out] at his7 ⊢
          have HI7 := Lib.hid his7
          have HBL7 := Lib.hid (below_next HBL6.out hnx)
          have HI67 := Lib.hid (HI6.out.below hnx)
          have hlt3 : ¬ (((j + 1 : Nat) : Int) < (j : Int) + 1) := by omega
          clear hown his7 hnx hz6
          go_wp2_with fail
          refine (HT3.out wr _ _ _ _ HI67.out HI7.out).mono ?_
          rintro e w9 ⟨A9, m9, c9, rfl, _, hb9⟩
          have HB9 := Lib.hid (below_next HBL7.out hb9)
          have hFx := HF.out
          have hGx := HG.out
          clear hb9
          by_cases hF0 : F = 0
          · by_cases hG0 : G = 0
            · skip
              have hFe : F = 0 := hF0
              have hxy := (hFx hFe).1
              have hyx := (hFx hFe).2
              have hGe : G = 0 := hG0
              have hzQ := hGx hGe
              subst hFe
              subst hGe
              have hzb : (z == Q) = true := by simpa using hzQ
              have h00 : ((0 : Int) != 0) = false := rfl
              clear hFx hF0
              clear hGx hG0 hzQ
              go_wp2
              go_ret
              exact ⟨rfl, HB9.out⟩
            · skip
              have hFe : F = 0 := hF0
              have hxy := (hFx hFe).1
              have hyx := (hFx hFe).2
              have hGb : (G != 0) = true := by simpa using hG0
              clear hGx
              subst hFe
              have h00 : ((0 : Int) != 0) = false := rfl
              clear hFx hF0
              clear hG0
              go_wp2
              go_ret
              exact ⟨rfl, HB9.out⟩
          · by_cases hG0 : G = 0
            · skip
              have hFb : (F != 0) = true := by simpa using hF0
              clear hFx
              have hGe : G = 0 := hG0
              have hzQ := hGx hGe
              subst hGe
              have hzb : (z == Q) = true := by simpa using hzQ
              have h00 : ((0 : Int) != 0) = false := rfl
              clear hF0
              clear hGx hG0 hzQ
              go_wp2
              go_ret
              exact ⟨rfl, HB9.out⟩
            · skip
              have hFb : (F != 0) = true := by simpa using hF0
              clear hFx
              have hGb : (G != 0) = true := by simpa using hG0
              clear hGx
              have h00 : ((0 : Int) != 0) = false := rfl
              clear hF0
              clear hG0
              go_wp2
              go_ret
              exact ⟨rfl, HB9.out⟩


theorem bmoreA_any (A : Option Addr) (n c : Nat) (hits : List Int) (A' : Option Addr) (n' c' : Nat) (gaps : List Int) (k more times : Int) (w : World) (h : IS w A n c hits) (hn : n ≤ 9223372036854775807) (h' : IS w A' n' c' gaps) (hn' : n' ≤ 9223372036854775807) :
    Calls Try.prog 6 #[.slice A n c, .slice A' n' c', I k, I more, I times] w (YesB w) := by
  by_cases hg : chkB hits gaps = 0 ∧ 0 ≤ k ∧ k < n ∧ 0 ≤ more ∧ more ≤ 1000 ∧ 0 ≤ times ∧ times ≤ 1000
  · obtain ⟨hc, h1, h2, h3, h4, h5, h6⟩ := hg
    have hI := chkB_ok hc
    have e1 := h.len
    have e2 := h'.len
    have e3 := hI.g
    rw [e1] at hI e3
    obtain rfl : n' = n + 1 := by omega
    obtain ⟨q, rfl⟩ : ∃ q : Nat, k = q := ⟨k.toNat, by omega⟩
    exact bmore_ok A A' n c c' q more times w hits gaps h h' hI (by omega) h3 h4 h5 h6
  · exact bmore_bad A A' n c n' c' k more times w hits gaps h hn h' hn' hg
end Go.Proofs.Ytconegligedniaa
