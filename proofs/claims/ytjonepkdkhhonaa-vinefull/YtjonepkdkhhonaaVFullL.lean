/-
  The walk of the law VineFull.
-/
import Derived.Test.YtjonepkdkhhonaaVOneL
import Derived.Test.YtjonepkdkhhonaaGCheck
namespace Go.Proofs.Ytjonepkdkhhonaa
open Go.RowKit Go.Maps

theorem zero_int (w : World) : (zeroValue 3).run Try.prog w = .ok (I 0) w := by kernel_rfl
/-- the map says how many of the first ones stand at each Depth -/
def RowMap (D : DataW Unit) (L : PL) : Prop := IsMap D ∧ ∀ d : Int, D.atKey (.int .i64 d) (.lit (.int .i64 0)) = .lit (.int .i64 (rowc L d))
theorem rowMap_nil : RowMap (.map []) [] := ⟨isMap_empty, fun d => rfl⟩
theorem rowc_snoc (L : PL) (p : Int × Int) (d : Int) : rowc (L ++ [p]) d = rowc L d + (if p.2 = d then 1 else 0) := by
  rw [rowc_app, rowc_cons]
  simp [rowc]
theorem RowMap.put {D : DataW Unit} {L : PL} (h : RowMap D L) (k x : Int) : RowMap (D.put (.int .i64 x) (.lit (.int .i64 ((rowc L x : Int) + 1)))) (L ++ [(k, x)]) := by
  refine ⟨h.1.put _ _, fun d => ?_⟩
  rw [rowc_snoc]
  by_cases hd : d = x
  · subst hd
    rw [if_pos rfl]
    exact atKey_put_same h.1 (by first | trivial | simp [WideAt.IsKeyLit]) _ _
  · rw [if_neg (fun e => hd e.symm), Nat.add_zero, ← h.2 d]
    exact atKey_put_other (by simp [hd]) _ _
theorem rowc_le (L : PL) (d : Int) : rowc L d ≤ L.length := List.countP_le_length

theorem vtake_snoc {L : PL} {k : Nat} (h : k < L.length) : L.take (k + 1) = L.take k ++ [(ky L k, dp L k)] := by
  rw [List.take_succ_eq_append_getElem h, ky_in h, dp_in h]

set_option maxRecDepth 100000 in
set_option maxHeartbeats 2000000 in
theorem vfull_bad (A : Option Addr) (n c : Nat) (l : PL) (w : World) (h : PS w A n c l) (hn : n ≤ 9223372036854775807) (hc : chkS l ≠ 0) :
    Calls Try.prog 6 #[.slice A n c] w (YesV w) := by
  obtain ⟨E, hE0⟩ : ∃ E, chkS l = E := ⟨_, rfl⟩
  rw [hE0] at hc
  have HV := Lib.hid (EvenV_bad A n c l w h hn E hE0 hc)
  have hE : (E != 0) = true := by simpa using hc
  clear h hc hE0
  go_enter Try.func6, Try.ntmps6
  go_wp2_with fail
  refine HV.out.mono ?_
  rintro e w1 ⟨rfl, hb1⟩
  have HB1 := Lib.hid hb1
  clear hb1
  go_wp2_with fail
  refine (vineLives_any _).mono ?_
  rintro e w2 ⟨rfl, hb2⟩
  have HB2 := Lib.hid (below_on HB1.out hb2)
  clear hb2
  go_wp2_with fail
  refine (vineLives_any _).mono ?_
  rintro e w3 ⟨rfl, hb3⟩
  have HB3 := Lib.hid (below_on HB2.out hb3)
  clear hb3
  go_wp2
  go_ret
  exact ⟨rfl, HB3.out⟩

set_option maxRecDepth 100000 in
set_option maxHeartbeats 4000000 in
theorem vfull_ok (A : Option Addr) (n c : Nat) (t : Tr) (w : World) (h : PS w A n c (t.sp 0)) (hT : IsTree (t.sp 0)) :
    Calls Try.prog 6 #[.slice A n c] w (YesV w) := by
  have hn : n ≤ 200 := by rw [← h.len]; exact hT.1
  have hsz : t.size = n := by rw [← sp_length t 0, h.len]
  have hkl : t.ks.length = n := by rw [ks_length, hsz]
  obtain ⟨j, h1, h2⟩ := log_has n
  have HV := Lib.hid (EvenV_ok A n c j t w h hT h1 h2)
  have hbal := evn_bal (j := j) (l := t.ks) (by rw [hkl]; exact h1) (by rw [hkl]; exact h2)
  have htl := bal_tall hbal
  have hj : j ≤ 7 := by
    apply Classical.byContradiction
    intro hc
    have : 2 ^ 8 ≤ 2 ^ j := Nat.pow_le_pow_right (by decide) (by omega)
    omega
  obtain ⟨s, hs⟩ : ∃ s, evn j t.ks = s := ⟨_, rfl⟩
  have hsk : s.ks = t.ks := by rw [← hs]; exact evn_ks j _
  have hsT : IsTree (s.sp 0) := istree_ks hT hsk
  have hsl : (s.sp 0).length = n := by rw [sp_length, ← ks_length, hsk, hkl]
  rw [hs] at HV hbal htl
  obtain ⟨T, hTT⟩ : ∃ T, s.tall = T := ⟨_, rfl⟩
  rw [hTT] at htl
  have hT8 : T ≤ 8 := by omega
  have HROW : Hid (∀ d : Nat, d + 1 < T → rowc (s.sp 0) (d : Int) = 2 ^ d) := fun d hd => bal_rows hbal (by rw [hTT]; exact hd)
  have HTALL : Hid (∀ i, i < n → dp (s.sp 0) i < T) := fun i hi => by
    have := sp_tall s 0 i (by rw [← sp_length s 0, hsl]; exact hi)
    rw [hTT] at this
    omega
  have HDP := Lib.hid (tree_dp hsT)
  have HSL := Lib.hid hsl
  generalize (vks t).length + evUp j n = up at HV
  clear h hT hsz hkl h1 h2 hbal htl hj hs hsk hsT hsl hTT
  generalize s.sp 0 = L at *
  have hmm := @run_makeMap Try.prog
  go_enter Try.func6, Try.ntmps6
  go_wp2_with fail
  refine HV.out.mono ?_
  rintro e w1 ⟨A1, c1, rfl, hps1, hb1⟩
  rw [HSL.out] at hps1 ⊢
  have HB1 := Lib.hid hb1
  have HP1 := Lib.hid hps1
  clear hb1 hps1
  go_wp2_with fail
  refine (vineLives_any _).mono ?_
  rintro e w2 ⟨rfl, hb2⟩
  have HB2 := Lib.hid (below_on HB1.out hb2)
  have HP2 := Lib.hid (HP1.out.below hb2)
  clear hb2 HP1
  go_wp2
  go_loopg [7, 27] n (fun m v i wr => ∃ (k y : Nat) (D : DataW Unit), i = .int .i64 k ∧ k ≤ n ∧ n - k ≤ m ∧ v = .int .i64 y ∧ y ≤ 200 ∧ (y = 0 ∨ ∃ x, x < n ∧ dp L x = y) ∧ RowMap D (L.take k) ∧ wr.ownsMap Try.prog 3 (plainElem Try.prog 3) w2.heap.size k D ∧ Below w2.heap.size w2 wr)
  case atStart => exact ⟨0, 0, .map [], rfl, Nat.zero_le _, by omega, rfl, by omega, .inl rfl, by rw [List.take_zero]; exact rowMap_nil, World.ownsMap_made _ _ _ _, (Below.refl _ _).alloc (Nat.le_refl _) _⟩
  case round =>
    obtain ⟨k, y, D, rfl, hk, hkm, rfl, hy, hyx, hrm, hown, hb⟩ := hrel
    have HRM := Lib.hid hrm
    have HOW := Lib.hid hown
    have HB := Lib.hid hb
    have HYX := Lib.hid hyx
    have hzr := hb.size
    clear hyx hrm hown hb
    by_cases hkn : k < n
    · obtain ⟨b, off, rfl, hbb, hcs⟩ := (HP2.out.below HB.out).dat (by omega)
      have hc0 := (hcs k hkn).1
      have hc1 := (hcs k hkn).2
      have hdk := HDP.out k
      obtain ⟨d, hd⟩ : ∃ d : Nat, dp L k = d := ⟨(dp L k).toNat, by omega⟩
      rw [hd] at hc1 hdk
      have hd2 : d ≤ 200 := by omega
      have HD := Lib.hid hd
      generalize hkk : ky L k = kk at hc0
      have HKK := Lib.hid hkk
      have hwf : (Lit.int .i64 (d : Int)).wf = true := wf_key (by omega)
      have hkey := keyOf_int_mk Try.underlying3 hwf
      obtain ⟨cc, hlook, hat, _⟩ := (HOW.out.alloc (.cells #[I kk, I d] 31)).lookup_int keyed_int Try.underlying42 Try.underlying3 (zero_int _) hkey
      rw [HRM.out.2 d] at hat
      have hcc : (rowc (L.take k) d : Int) = cc := by simpa using hat
      have hcl := rowc_le (L.take k) d
      have hcl2 : rowc (L.take k) d ≤ 200 := by simp at hcl; omega
      have HCC := Lib.hid hcc
      have hc3 : 0 ≤ cc ∧ cc ≤ 200 := by omega
      have e1 : IntKind.i64.wrap (cc + 1) = cc + 1 := IntWalk.i64_in _ (by omega)
      have hwf2 : (Lit.int .i64 (cc + 1)).wf = true := wf_key (by omega)
      have hel := plainElem_int (H := Unit) Try.underlying3 hwf2
      have HRM2 : Hid (RowMap (D.put (.int .i64 d) (.lit (.int .i64 (cc + 1)))) (L.take (k + 1))) := by
        have := HRM.out.put kk d
        rw [HCC.out] at this
        show RowMap _ _
        rw [vtake_snoc (by rw [HSL.out]; exact hkn), HKK.out, HD.out]
        exact this
      have HYD : Hid (∀ y' : Nat, (y' = y ∨ y' = d) → (y' = 0 ∨ ∃ x, x < n ∧ dp L x = y')) := fun y' hy' => by
        rcases hy' with rfl | rfl
        · exact HYX.out
        · exact .inr ⟨k, hkn, HD.out⟩
      clear hcs hdk hd hkk hat hcc hcl hcl2 hwf hwf2 HCC
      by_cases hyd : y < d
      · have hyd' : (y : Int) < d := by omega
        go_wp2_with (first
          | (at_mapUpdate; refine wpList_mapUpdate_own _ rfl _ _ _ 42 rfl 3 3 keyed_int Try.underlying42 (plainElem Try.prog 3) _ k _ rfl (HOW.out.alloc _) (by unfold maxLen; omega) _ _ _ rfl rfl hkey _ [] hel ?_; intro w4 hown4 hgrow4
             have hbx4 : w4.cell? ⟨wr.heap.size, 1, none⟩ = some (I d) := by
               have h1 : w4.heap[wr.heap.size]? = (wr.alloc (.cells #[I kk, I d] 31)).heap[wr.heap.size]? := hgrow4.block _ (by simp) (fun e => by have := HOW.out.lt; have := Option.some.inj e; omega)
               rw [World.cell?_of_block (a := ⟨wr.heap.size, 1, none⟩) h1, cell_of_row _ _ _ _ _ _ (heap_alloc_new wr _)]
               rfl)
          | go_in)
        have hs4 := hgrow4.size
        go_wp2
        go_roundg (n - (k + 1))
        case measure => omega
        case rel => exact ⟨k + 1, d, _, by go_num, by omega, Nat.le_refl _, rfl, by omega, HYD.out d (.inr rfl), HRM2.out, hown4, (HB.out.alloc hzr _).grown hgrow4 (by simp; omega) (fun i hi => by cases hi; exact Nat.le_refl _)⟩
      · have hyd' : ¬ (y : Int) < d := by omega
        go_wp2_with (first
          | (at_mapUpdate; refine wpList_mapUpdate_own _ rfl _ _ _ 42 rfl 3 3 keyed_int Try.underlying42 (plainElem Try.prog 3) _ k _ rfl (HOW.out.alloc _) (by unfold maxLen; omega) _ _ _ rfl rfl hkey _ [] hel ?_; intro w4 hown4 hgrow4
             have hbx4 : w4.cell? ⟨wr.heap.size, 1, none⟩ = some (I d) := by
               have h1 : w4.heap[wr.heap.size]? = (wr.alloc (.cells #[I kk, I d] 31)).heap[wr.heap.size]? := hgrow4.block _ (by simp) (fun e => by have := HOW.out.lt; have := Option.some.inj e; omega)
               rw [World.cell?_of_block (a := ⟨wr.heap.size, 1, none⟩) h1, cell_of_row _ _ _ _ _ _ (heap_alloc_new wr _)]
               rfl)
          | go_in)
        have hs4 := hgrow4.size
        go_wp2
        go_roundg (n - (k + 1))
        case measure => omega
        case rel => exact ⟨k + 1, y, _, by go_num, by omega, Nat.le_refl _, rfl, by omega, HYD.out y (.inl rfl), HRM2.out, hown4, (HB.out.alloc hzr _).grown hgrow4 (by simp; omega) (fun i hi => by cases hi; exact Nat.le_refl _)⟩
    · have htk : L.take k = L := List.take_of_length_le (by rw [HSL.out]; omega)
      rw [htk] at HRM
      have HLOW : Hid (∀ d : Nat, d < y → d + 1 < T) := fun d hd => by
        rcases HYX.out with h0 | ⟨x, hx, he⟩
        · omega
        · have := HTALL.out x hx
          omega
      clear htk
      go_wp2
      go_loopg [42] y (fun m i wr' => ∃ d : Nat, i = .int .i64 d ∧ d ≤ y ∧ y - d ≤ m ∧ wr'.ownsMap Try.prog 3 (plainElem Try.prog 3) w2.heap.size k D ∧ Below wr.heap.size wr wr')
      case atStart => exact ⟨0, rfl, Nat.zero_le _, by omega, HOW.out, Below.refl _ _⟩
      case round =>
        obtain ⟨d, rfl, hdy, hdm, hown2, hb2⟩ := hrel
        have HOW2 := Lib.hid hown2
        have HBB := Lib.hid hb2
        clear hown2 hb2
        by_cases hlt : d < y
        · have hdT := HLOW.out d hlt
          have hwf : (Lit.int .i64 (d : Int)).wf = true := wf_key (by omega)
          have hkey := keyOf_int_mk Try.underlying3 hwf
          obtain ⟨cc, hlook, hat, _⟩ := HOW2.out.lookup_int keyed_int Try.underlying42 Try.underlying3 (zero_int _) hkey
          rw [HRM.out.2 d, HROW.out d hdT] at hat
          obtain ⟨P, hP⟩ : ∃ P : Nat, 2 ^ d = P := ⟨_, rfl⟩
          have hcc : (P : Int) = cc := by rw [← hP]; simpa using hat
          have hP9 : P ≤ 256 := by
            rw [← hP]
            have h9 : 2 ^ d ≤ 2 ^ 8 := Nat.pow_le_pow_right (by decide) (by omega)
            exact h9
          have HPOW : Hid (wrap64 ((2 : Int) ^ d) = P) := by
            show _ = _
            rw [show (2 : Int) ^ d = (P : Int) by rw [← hP]; simp]
            exact IntWalk.wrap64_in _ (by clear hP hat; omega)
          subst hcc
          have hlook' : ∀ x, (Instr.lookup 42 (.map (some w2.heap.size)) (I d) false).run Try.prog (wr.drewN x) = .ok (I P) (wr.drewN x) := fun x => by
            obtain ⟨c2, hl2, hat2, _⟩ := World.ownsMap.lookup_int (w := wr.drewN x) HOW2.out keyed_int Try.underlying42 Try.underlying3 (zero_int _) hkey
            rw [HRM.out.2 d, HROW.out d hdT, hP] at hat2
            have : (P : Int) = c2 := by simpa using hat2
            rw [this]
            exact hl2
          have hne : ((P : Int) != (P : Int)) = false := by simp
          clear hP hat hwf hkey
          have e2 := HPOW.out
          go_wp2
          go_quiet (fail)
          go_wp2
          clear e2
          go_roundg (y - (d + 1))
          case measure => omega
          case rel => exact ⟨d + 1, by go_num, by omega, Nat.le_refl _, HOW2.out, below_drewN HBB.out _⟩
        · have HBE := Lib.hid (below_on (below_on HB2.out HB.out) HBB.out)
          go_wp2
          go_ret
          exact ⟨rfl, HBE.out⟩

theorem vfull_any (A : Option Addr) (n c : Nat) (l : PL) (w : World) (h : PS w A n c l) (hn : n ≤ 9223372036854775807) :
    Calls Try.prog 6 #[.slice A n c] w (YesV w) := by
  by_cases hc : chkS l = 0
  · have hT := chkS_zero.1 hc
    obtain ⟨t, ht⟩ := hT.2.2
    subst ht
    exact vfull_ok A n c t w h hT
  · exact vfull_bad A n c l w h hn hc

end Go.Proofs.Ytjonepkdkhhonaa
