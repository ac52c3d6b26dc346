/-
  hedgref: Between, BestRight, SameSpots, BestTree.
-/
import Derived.Test.YtconegligedniaaBLA
import Derived.Test.YtconegligedniaaGRefS
import Derived.Test.YtconegligedniaaGInts
namespace Go.Proofs.Ytconegligedniaa
open Go.RowKit Go.Maps

theorem betw_any (x a b : Int) (w : World) : Calls Try.prog 31 #[I x, I a, I b] w fun e w' => e = .returned (.bool (decide (a ≤ x ∧ x ≤ b))) ∧ w = w' := by
  by_cases h0 : a ≤ x
  · by_cases h1 : x ≤ b
    · have HE : Hid (decide (a ≤ x ∧ x ≤ b) = true) := by show _ = _; simp [h0, h1]
      go_enter Try.func31, Try.ntmps31
      go_wp2
      go_ret
      exact ⟨by simp [h0, h1], rfl⟩
    · have HE : Hid (decide (a ≤ x ∧ x ≤ b) = false) := by show _ = _; simp [h1]
      go_enter Try.func31, Try.ntmps31
      go_wp2
      go_ret
      exact ⟨by simp [h1], rfl⟩
  · have HE : Hid (decide (a ≤ x ∧ x ≤ b) = false) := by show _ = _; simp [h0]
    go_enter Try.func31, Try.ntmps31
    go_wp2
    go_ret
    exact ⟨by simp; omega, rfl⟩
theorem betw_isO (x : Int) (w : World) : Calls Try.prog 31 #[I x, I 0, I 1000] w fun e w' => e = .returned (.bool (!isO x)) ∧ w = w' := by
  have := betw_any x 0 1000 w
  have e : decide (0 ≤ x ∧ x ≤ 1000) = !isO x := by
    unfold isO
    by_cases h1 : x < 0
    · have : ¬ (0 ≤ x) := by omega
      simp [h1, this]
    · by_cases h2 : 1000 < x
      · have : ¬ (x ≤ 1000) := by omega
        simp [h2, this]
      · simp [h1, h2]; omega
  rw [e] at this
  exact this

set_option maxRecDepth 100000 in
set_option maxHeartbeats 2000000 in
theorem bright_any (A A' : Option Addr) (n c n' c' : Nat) (hits gaps : List Int) (w : World) (h : IS w A n c hits) (h' : IS w A' n' c' gaps) (hn : n ≤ 9223372036854775807) (hn' : n' ≤ 9223372036854775807) :
    Calls Try.prog 11 #[.slice A n c, .slice A' n' c'] w fun e w' => e = .returned (I (chkB hits gaps)) ∧ Below w.heap.size w w' := by
  have H := Lib.hid h
  have H' := Lib.hid h'
  have HL := Lib.hid h.len
  have HL' := Lib.hid h'.len
  clear h h'
  by_cases h20 : 20 < n
  · have HE : Hid (chkB hits gaps = 2) := by show _ = _; unfold chkB; rw [if_pos (by rw [HL.out]; exact h20)]
    go_enter Try.func11, Try.ntmps11
    go_wp2
    go_ret
    exact ⟨ret_int (by rw [HE.out]), Below.refl _ _⟩
  · by_cases hne : n' = n + 1
    · subst hne
      have hx : ((((n + 1 : Nat)) : Int) != (n : Int) + 1) = false := by simp
      have HD : Hid (chkB hits gaps = if (hits ++ gaps).any isO then 1 else 0) := by
        show _ = _
        unfold chkB
        rw [if_neg (by rw [HL.out]; exact h20), if_neg (by rw [HL.out, HL'.out]; simp), List.any_append]
        simp
      obtain ⟨L, hL⟩ : ∃ L, hits ++ gaps = L := ⟨_, rfl⟩
      rw [hL] at HD
      obtain ⟨N, hN⟩ : ∃ N, L.length = N := ⟨_, rfl⟩
      have hN41 : N ≤ 41 := by rw [← hN, ← hL, List.length_append, HL.out, HL'.out]; omega
      have HLL := Lib.hid hL
      have HN := Lib.hid hN
      clear hL hN
      go_enter Try.func11, Try.ntmps11
      go_wp2_with (first
        | (at_builtin
           refine wpList_app1 rfl (.tmp 16) (.tmp 17) 23 rfl 3 Try.underlying23 int_info w.heap.size (.slice (some ⟨w.heap.size, 0, none⟩) 0 0) [] hits A n c rfl rfl (World.ownsRow_made w _ 0 (Nat.le_refl _) (by unfold maxLen; omega) (by simp)) (H.out.below ((Below.refl _ _).alloc (Nat.le_refl _) _)).src (by simp; omega) (by simp) ?_
           intro v2 w2 hown2 hgrow2 hat2
           have HB2 : Hid (Below w.heap.size w w2) := Below.grown ((Below.refl _ _).alloc (Nat.le_refl _) _) hgrow2 (by simp) (by simp [Value.ownBlock])
           rw [List.nil_append] at hown2
           have HO2 := Lib.hid hown2
           clear hown2 hgrow2 hat2)
        | (at_builtin
           refine wpList_app1 rfl (.tmp 18) (.tmp 19) 23 rfl 3 Try.underlying23 int_info w.heap.size v2 hits gaps A' (n + 1) c' rfl rfl HO2.out (H'.out.below HB2.out).src (by have := HL.out; omega) HB2.out.size ?_
           intro v3 w3 hown3 hgrow3 hat3
           have HB3 : Hid (Below w.heap.size w w3) := HB2.out.grown hgrow3 HB2.out.size (own_ge1 HO2.out)
           have HO3 : OwnI w3 w.heap.size v3 (hits ++ gaps) := hown3
           obtain ⟨A3, c3, rfl, his3, _⟩ := HO3.is_
           rw [HLL.out, HN.out] at his3 ⊢
           have HI3 := Lib.hid his3
           clear hown3 hgrow3 hat3 his3 HO3)
        | fail)
      go_loopw [22] (fun i wr => ∃ k : Nat, k ≤ N ∧ i = .int .i64 k ∧ Hid (∀ q (hq : q < L.length), q < k → isO L[q] = false) ∧ wr = w3) (fun i _ => N - (intOf i).toNat)
      case atStart => exact ⟨0, Nat.zero_le _, rfl, fun q _ hq => absurd hq (by omega), rfl⟩
      case round =>
        obtain ⟨k, hk, rfl, HALL, rfl⟩ := hrel
        by_cases hlt : k < N
        · obtain ⟨b, off, rfl, hb, hcs⟩ := HI3.out.at_ (by omega)
          have hjl : k < L.length := by rw [HN.out]; exact hlt
          have hc0 : wr.cell? ⟨b, off + k, none⟩ = some (I L[k]) := hcs k hlt
          have HCALL := Lib.hid (betw_isO L[k] wr)
          cases ho : isO L[k] with
          | true =>
            rw [ho] at HCALL
            have HE : Hid (chkB hits gaps = 1) := by
              show _ = _
              rw [HD.out, if_pos]
              rw [List.any_eq_true]
              exact ⟨_, List.getElem_mem hjl, ho⟩
            clear hcs ho
            go_wp2_with fail
            refine HCALL.out.mono ?_
            rintro e w1 ⟨rfl, rfl⟩
            go_wp2
            go_ret
            exact ⟨ret_int (by rw [HE.out]), HB3.out⟩
          | false =>
            rw [ho] at HCALL
            have HE : Hid (∀ q (hq : q < L.length), q < k + 1 → isO L[q] = false) := fun q hq h1 => by
              rcases Nat.lt_or_ge q k with h2 | h2
              · exact HALL.out q hq h2
              · obtain rfl : q = k := by omega
                exact ho
            clear hcs ho
            go_wp2_with fail
            refine HCALL.out.mono ?_
            rintro e w1 ⟨rfl, rfl⟩
            go_wp2
            go_roundw
            case rel => exact ⟨k + 1, by omega, by go_num, HE.out, by first | trivial | rfl⟩
            case measure => simp [intOf]; omega
        · have HE : Hid (chkB hits gaps = 0) := by
            show _ = _
            rw [HD.out, if_neg]
            rw [Bool.not_eq_true, List.any_eq_false]
            intro x hx
            obtain ⟨q, hq, rfl⟩ := List.getElem_of_mem hx
            rw [HALL.out q hq (by rw [HN.out] at hq; omega)]
            simp
          go_wp2
          go_ret
          exact ⟨ret_int (by rw [HE.out]), HB3.out⟩
    · have HE : Hid (chkB hits gaps = 3) := by show _ = _; unfold chkB; rw [if_neg (by rw [HL.out]; exact h20), if_pos (by rw [HL.out, HL'.out]; exact hne)]
      have hx : ((n' : Int) != (n : Int) + 1) = true := by simp; omega
      go_enter Try.func11, Try.ntmps11
      go_wp2
      go_ret
      exact ⟨ret_int (by rw [HE.out]), Below.refl _ _⟩

set_option maxRecDepth 100000 in
set_option maxHeartbeats 2000000 in
theorem sameB_any (A A' : Option Addr) (n c c' : Nat) (l : PL) (w : World) (h : PS w A n c l) (h' : PS w A' n c' l) (hn : n ≤ 1000) :
    Calls Try.prog 13 #[.slice A n c, .slice A' n c'] w fun e w' => e = .returned (.bool true) ∧ Below w.heap.size w w' := by
  have H := Lib.hid h
  have H' := Lib.hid h'
  clear h h'
  have hne : ((n : Int) != (n : Int)) = false := by simp
  go_enter Try.func13, Try.ntmps13
  go_wp2
  go_loopw [13] (fun i wr => ∃ k : Nat, k ≤ n ∧ i = .int .i64 k ∧ Below w.heap.size w wr) (fun i _ => n - (intOf i).toNat)
  case atStart => exact ⟨0, Nat.zero_le _, rfl, Below.refl _ _⟩
  case round =>
    obtain ⟨k, hk, rfl, hnx⟩ := hrel
    have hsz := hnx.size
    by_cases hlt : k < n
    · obtain ⟨b, off, rfl, hb, hcs⟩ := (H.out.below hnx).dat (by omega)
      obtain ⟨b', off', rfl, hb', hcs'⟩ := (H'.out.below hnx).dat (by omega)
      have c0 := (hcs k hlt).1
      have c1 := (hcs k hlt).2
      have d0 := (hcs' k hlt).1
      have d1 := (hcs' k hlt).2
      generalize ky l k = x at *
      generalize dp l k = y at *
      have hxx : (x == x) = true := by simp
      have hyy : (y == y) = true := by simp
      clear hcs hcs'
      go_wp2
      go_quiet (fail)
      go_wp2
      go_roundw
      case rel => exact ⟨k + 1, by omega, by go_num, below_drewN hnx _⟩
      case measure => simp [intOf]; omega
    · go_wp2
      go_ret
      exact ⟨rfl, hnx⟩

/-- a tree stays one while the map is written -/
theorem RT.grownM {w w' : World} {gm : Nat} {es : Array MapEntry} {clock : Nat} (hg : w.grownBy w' (some gm)) (hm : w.heap[gm]? = some (.map es clock)) : ∀ {t : Tr} {q : Option Addr}, RT w q t → RT w' q t := by
  intro t
  induction t with
  | nil => exact fun {q} h => h
  | node a k b iha ihb =>
    rintro q ⟨g, qa, qb, rfl, hgg, ha, hb'⟩
    refine ⟨g, qa, qb, rfl, (hg.block g (Array.getElem?_eq_some_iff.1 hgg).1 ?_).trans hgg, iha ha, ihb hb'⟩
    intro e
    injection e with e
    subst e
    rw [hm] at hgg
    cases hgg
theorem KM.isMap {W : Nat → Nat → Int} {gm n : Nat} {w : World} (h : KM W gm n w) : ∃ es clock, w.heap[gm]? = some (.map es clock) := by
  obtain ⟨D, ⟨es, clock, hb, _⟩, _⟩ := h
  exact ⟨es, clock, hb⟩

/-- what BestTree answers -/
def RetBB (W : Nat → Nat → Int) (gm nn m i j : Nat) (w : World) (e : Ending) (w' : World) : Prop :=
  ∃ q, e = .returned (.pointer q) ∧ RT w' q (bt W m i j) ∧ (∃ nn', nn' ≤ nn + (j - i) * 3486784401 ∧ KM W gm nn' w') ∧ w.grownBy w' (some gm)

set_option maxRecDepth 100000 in
set_option maxHeartbeats 4000000 in
theorem btree_any (A A' : Option Addr) (n c c' gm : Nat) (hits gaps : List Int) (hI : InB hits gaps n) (hA : 0 < n → ∀ ad, A = some ad → ad.block ≠ gm) (hA' : ∀ ad, A' = some ad → ad.block ≠ gm) : ∀ (m i j nn : Nat) (w : World), j ≤ i + m → i ≤ j → j ≤ n → IS w A n c hits → IS w A' (n + 1) c' gaps → KM (wij hits gaps) gm nn w → nn + (j - i) * 3486784401 ≤ 900000000000 →
    Calls Try.prog 15 #[.slice A n c, .slice A' (n + 1) c', I i, I j, .map (some gm)] w (RetBB (wij hits gaps) gm nn m i j w)
  | m, i, j, nn, w, hm, hij, hj, h, h', hk, hb => by
    by_cases hlt : i < j
    · obtain ⟨m, rfl⟩ : ∃ m', m = m' + 1 := ⟨m - 1, by omega⟩
      have hn := hI.n20
      have ht3 : T3p (j - i) ≤ 3486784401 := by
        have := T3p_le (show j - i ≤ 20 by omega)
        rw [T3p_20] at this
        exact this
      have HC := Lib.hid (least_any A A' n c c' gm hits gaps hI hA hA' 20 i j nn w (by omega) hij hj h h' hk (by omega))
      have htb := tp_bd (lc (wij hits gaps)) hlt
      have hti : topI (wij hits gaps) i j = (tp (lc (wij hits gaps)) i j : Int) := if_pos hlt
      have hbt : bt (wij hits gaps) (m + 1) i j = .node (bt (wij hits gaps) m i (tp (lc (wij hits gaps)) i j)) (tp (lc (wij hits gaps)) i j : Nat) (bt (wij hits gaps) m (tp (lc (wij hits gaps)) i j + 1) j) := by rw [bt, if_pos hlt]
      obtain ⟨t, ht⟩ : ∃ t, tp (lc (wij hits gaps)) i j = t := ⟨_, rfl⟩
      rw [ht] at htb hti hbt
      have HR1 := Lib.hid (fun (nn : Nat) (w : World) (a1 : IS w A n c hits) (a2 : IS w A' (n + 1) c' gaps) (a3 : KM (wij hits gaps) gm nn w) (a4 : nn + (t - i) * 3486784401 ≤ 900000000000) => btree_any A A' n c c' gm hits gaps hI hA hA' m i t nn w (by omega) htb.1 (by omega) a1 a2 a3 a4)
      have HR2 : Hid (∀ (nn : Nat) (w : World), IS w A n c hits → IS w A' (n + 1) c' gaps → KM (wij hits gaps) gm nn w → nn + (j - (t + 1)) * 3486784401 ≤ 900000000000 → Calls Try.prog 15 #[.slice A n c, .slice A' (n + 1) c', I ((t : Int) + 1), I j, .map (some gm)] w (RetBB (wij hits gaps) gm nn m (t + 1) j w)) := fun nn w a1 a2 a3 a4 => btree_any A A' n c c' gm hits gaps hI hA hA' m (t + 1) j nn w (by omega) (by omega) hj a1 a2 a3 a4
      have H := Lib.hid h
      have H' := Lib.hid h'
      have HA := Lib.hid hA
      have HA' := Lib.hid hA'
      have HBT := Lib.hid hbt
      have HTI := Lib.hid hti
      have hne : ((i : Int) == (j : Int)) = false := by simp; omega
      have ek : IntKind.i64.wrap ((t : Int) + 1) = (t : Int) + 1 := IntWalk.i64_in _ (by omega)
      obtain ⟨htb1, htb2⟩ := htb
      clear h h' hk hA hA' hI hti hbt ht
      generalize wij hits gaps = W at *
      generalize lc W i j = z at *
      go_enter Try.func15, Try.ntmps15
      go_wp2_with fail
      refine HC.out.mono ?_
      rintro e w1 ⟨rfl, ⟨n1, hn1, hk1⟩, hg1⟩
      rw [HTI.out]
      have HG1 := Lib.hid hg1
      have hc1 := HR1.out n1 w1 (H.out.grownB hg1 HA.out) (H'.out.grownB hg1 fun _ => HA'.out) hk1 (by omega)
      have HC1 := Lib.hid hc1
      clear hk1 hg1 hc1
      go_wp2_with fail
      refine HC1.out.mono ?_
      rintro e w2 ⟨qa, rfl, hra, ⟨n2, hn2, hk2⟩, hg2⟩
      have hg12 := HG1.out.trans hg2
      have hc2 := HR2.out n2 w2 (H.out.grownB hg12 HA.out) (H'.out.grownB hg12 fun _ => HA'.out) hk2 (by omega)
      have HC2 := Lib.hid hc2
      have HRA := Lib.hid hra
      have HG12 := Lib.hid hg12
      have HM2 := Lib.hid hk2.isMap
      clear hk2 hg2 hg12 hc2 hra
      go_wp2_with fail
      refine HC2.out.mono ?_
      rintro e w3 ⟨qb, rfl, hrb, ⟨n3, hn3, hk3⟩, hg3⟩
      obtain ⟨es, clock, hm⟩ := HM2.out
      have HRA3 := Lib.hid (RT.grownM hg3 hm HRA.out)
      have HRB := Lib.hid hrb
      have HG := Lib.hid (HG12.out.trans hg3)
      have HK3 := Lib.hid hk3
      have hbd : n3 ≤ nn + (j - i) * 3486784401 := by
        have : (j - i) = (t - i) + (j - (t + 1)) + 1 := by omega
        rw [this, Nat.add_mul, Nat.add_mul]
        omega
      have HBD := Lib.hid hbd
      clear hk3 hg3 hrb hm hn1 hn2 hn3 hbd hb
      go_wp2
      go_ret
      exact ⟨_, rfl, by rw [HBT.out]; exact RT.box _ HRA3.out HRB.out, ⟨n3, HBD.out, HK3.out.kept ((Below.refl _ _).alloc (Nat.le_refl _) _)⟩, grown_alloc HG.out _⟩
    · obtain rfl : i = j := by omega
      have hbt : bt (wij hits gaps) m i i = .nil := by cases m with | zero => rfl | succ m => rw [bt, if_neg (by omega)]
      have HBT := Lib.hid hbt
      have HK := Lib.hid hk
      have he : ((i : Int) == (i : Int)) = true := by simp
      clear h h' hk hbt
      go_enter Try.func15, Try.ntmps15
      go_wp2
      go_ret
      exact ⟨none, rfl, by rw [HBT.out]; rfl, ⟨nn, by omega, HK.out⟩, World.grownBy.refl _ _⟩
  termination_by m => m

end Go.Proofs.Ytconegligedniaa
