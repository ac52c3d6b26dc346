/-
  treesOf.
-/
import Derived.Test.YtconegligedniaaSRows
import Derived.Test.YtconegligedniaaSAll
namespace Go.Proofs.Ytconegligedniaa
open Go.RowKit

def cntT : Nat → Nat → Nat → Nat
  | 0, _, _ => 1
  | f + 1, a, b => if a = b then 1 else ((List.range' a (b - a)).map fun i => cntT f a i * cntT f (i + 1) b).sum
theorem scnt_le : ∀ f, f < 9 → ∀ a, a < 9 → ∀ b, b < 8 → cntT f a b ≤ 429 := by decide +kernel
theorem trees_cnt : ∀ f a b d, (trees f a b d).length = cntT f a b := by
  intro f
  induction f with
  | zero => intro a b d; rfl
  | succ f ih =>
    intro a b d
    rw [trees, cntT]
    split
    · rfl
    · rw [List.length_flatMap]
      congr 1
      apply List.map_congr_left
      intro i _
      rw [List.length_flatMap]
      have : (fun L : PL => ((trees f (i + 1) b (d + 1)).map fun R => L ++ ((i : Int), (d : Int)) :: R).length) = fun _ => cntT f (i + 1) b := by
        funext L
        rw [List.length_map, ih]
      rw [this, List.map_const', List.sum_replicate_nat, ih]
theorem treesTo_mono (f a b d : Nat) : ∀ m k, a ≤ k → (treesTo f a b d k).length ≤ (treesTo f a b d (k + m)).length := by
  intro m
  induction m with
  | zero => intro k _; exact Nat.le_refl _
  | succ m ih =>
    intro k hk
    have := ih k hk
    rw [show k + (m + 1) = k + m + 1 by omega, treesTo_succ f a b d (k + m) (by omega), List.length_append]
    omega
theorem treesTo_le (f a b d k : Nat) (hf : f + 1 < 9) (hab : a < b) (hb : b < 8) (ha : a ≤ k) (hk : k ≤ b) : (treesTo f a b d k).length ≤ 429 := by
  have h1 := treesTo_mono f a b d (b - k) k ha
  rw [show k + (b - k) = b by omega, ← trees_eq f a b d (by omega), trees_cnt] at h1
  have := scnt_le (f + 1) hf a (by omega) b hb
  omega

/-- with these on the left and one of those on the right -/
def both (k d : Nat) (rs : List PL) (L : PL) : List PL := rs.map fun R => L ++ ((k : Int), (d : Int)) :: R
theorem mid_step (k d : Nat) (ls rs : List PL) (i : Nat) (h : i < ls.length) : (ls.take (i + 1)).flatMap (both k d rs) = (ls.take i).flatMap (both k d rs) ++ both k d rs ls[i] := by
  rw [List.take_succ_eq_append_getElem h, List.flatMap_append]
  simp only [List.flatMap_cons, List.flatMap_nil, List.append_nil]
theorem in_step (k d : Nat) (rs : List PL) (L : PL) (j : Nat) (h : j < rs.length) : both k d (rs.take (j + 1)) L = both k d (rs.take j) L ++ [L ++ ((k : Int), (d : Int)) :: rs[j]] := by
  unfold both
  rw [List.take_succ_eq_append_getElem h, List.map_append]
  simp only [List.map_cons, List.map_nil]
theorem both_len (k d : Nat) (rs : List PL) (L : PL) : (both k d rs L).length = rs.length := by simp [both]
theorem mid_len (k d : Nat) (ls rs : List PL) : (ls.flatMap (both k d rs)).length = ls.length * rs.length := by
  induction ls with
  | nil => simp
  | cons L t ih => rw [List.flatMap_cons, List.length_append, ih, both_len, List.length_cons, Nat.succ_mul]; omega

def SRetT (Ls : List PL) (w : World) (e : Ending) (w' : World) : Prop := ∃ v es, e = .returned v ∧ TR w' w.heap.size v es ∧ es.map Sl.L = Ls ∧ Below w.heap.size w w'

theorem slice_info : (Try.prog.info? 22).map (fun i => (i.zero, i.size, i.bytes)) = some (some (.slice none 0 0), 1, 24) := by kernel_rfl

set_option maxRecDepth 100000 in
set_option maxHeartbeats 1000000 in
theorem treesOf_none (f a d : Nat) (w : World) : Calls Try.prog 33 #[I a, I a, I d] w (SRetT (trees f a a d) w) := by
  have HT : Hid (trees f a a d = [[]]) := by
    show _ = _
    cases f with
    | zero => rfl
    | succ f => rw [trees, if_pos rfl]
  have hq : ((a : Int) == (a : Int)) = true := by simp
  go_enter Try.func33, Try.ntmps33
  go_wp2
  go_ret
  refine ⟨_, [⟨some ⟨w.heap.size, 0, none⟩, 0, 0, []⟩], rfl, ⟨⟨rfl, .inr ⟨w.heap.size + 1, 1, #[.slice (some ⟨w.heap.size, 0, none⟩) 0 0], rfl, by omega, ?_, Nat.le_refl _, by unfold maxLen; omega, rfl, rfl⟩⟩, ?_⟩, by rw [HT.out]; rfl, ((Below.refl _ _).alloc (Nat.le_refl _) _).alloc (by simp) _⟩
  · have := heap_alloc_new (w.alloc (.cells #[] 42)) (.cells #[.slice (some ⟨w.heap.size, 0, none⟩) 0 0] 22)
    simpa using this
  · intro s hs
    simp at hs
    subst hs
    exact ⟨rfl, Nat.le_refl _, fun h => absurd h (by simp)⟩

theorem map_at {es : List Sl} {Ls : List PL} (h : es.map Sl.L = Ls) {i : Nat} (hi : i < es.length) : ∃ hl : i < Ls.length, Ls[i] = es[i].L := by
  subst h
  exact ⟨by simpa using hi, by simp⟩
theorem sl_n {w : World} {es : List Sl} {Ls : List PL} {m : Nat} (ht : ∀ s ∈ es, s.tag w) (h : es.map Sl.L = Ls) (hm : ∀ L ∈ Ls, L.length ≤ m) : ∀ s ∈ es, s.n ≤ m := by
  intro s hs
  rw [← (ht s hs).1]
  exact hm _ (by rw [← h]; exact List.mem_map_of_mem hs)
theorem rs_three {w : World} {s1 s2 s3 : Sl} (h1 : s1.ok w) (h2 : s2.ok w) (h3 : s3.ok w) : RS (w.alloc (.cells #[s1.val, s2.val, s3.val] 22)) (some ⟨w.heap.size, 0, none⟩) 3 3 [s1, s2, s3] := by
  have hb : Below w.heap.size w (w.alloc (.cells #[s1.val, s2.val, s3.val] 22)) := (Below.refl _ _).alloc (Nat.le_refl _) _
  refine ⟨rfl, ⟨Nat.le_refl _, fun _ => ⟨w.heap.size, 0, rfl, by simp, fun i hi j hj => ?_⟩⟩, ?_⟩
  · obtain rfl : j = 0 := by omega
    rw [cell_of_row _ _ _ _ _ _ (heap_alloc_new w _)]
    have : i = 0 ∨ i = 1 ∨ i = 2 := by omega
    rcases this with rfl | rfl | rfl <;> rfl
  · intro s hs
    simp at hs
    rcases hs with rfl | rfl | rfl
    · exact PS.below h1 hb
    · exact PS.below h2 hb
    · exact PS.below h3 hb
theorem ps_one (w : World) (k d : Int) : (⟨some ⟨w.heap.size, 0, none⟩, 1, 1, [(k, d)]⟩ : Sl).ok (w.alloc (.cells #[I k, I d] 42)) := (PB.new w 42 [(k, d)]).ps (Nat.le_refl _)
theorem one_val (s : Sl) : ∀ u ∈ [s.val], u.oneCell' = true := by
  intro u hu
  simp at hu
  subst hu
  rfl

set_option maxRecDepth 100000 in
set_option maxHeartbeats 8000000 in
theorem treesOf_any : ∀ (f a b d : Nat) (w : World), a ≤ b → b ≤ 7 → b - a ≤ f → f ≤ 8 → d + f ≤ 100 →
    Calls Try.prog 33 #[I a, I b, I d] w (SRetT (trees f a b d) w) := by
  intro f
  induction f with
  | zero =>
    intro a b d w h1 h2 h3 _ _
    obtain rfl : a = b := by omega
    exact treesOf_none 0 a d w
  | succ f ih =>
    intro a b d w hab hb7 hf hf8 hd
    by_cases heq : a = b
    · subst heq
      exact treesOf_none (f + 1) a d w
    · have hq : ((a : Int) == (b : Int)) = false := by simp; omega
      have HTE := Lib.hid (trees_eq f a b d heq)
      have IH := Lib.hid ih
      have hlt : a < b := by omega
      obtain ⟨i0, hi, hz0, hz1, hz2⟩ := info_parts slice_info
      have HI := Lib.hid hi
      have HZ0 := Lib.hid hz0
      have HZ1 := Lib.hid hz1
      have HZ2 := Lib.hid hz2
      clear ih heq hi hz0 hz1 hz2
      go_enter Try.func33, Try.ntmps33
      go_wp2
      go_loopw [7, 8] (fun u kv wr => ∃ (k : Nat) (es : List Sl), a ≤ k ∧ k ≤ b ∧ kv = .int .i64 k ∧ TR wr w.heap.size u es ∧ es.map Sl.L = treesTo f a b d k ∧ Below w.heap.size w wr) (fun _ kv _ => b - (intOf kv).toNat)
      case atStart => exact ⟨a, [], Nat.le_refl _, hab, rfl, ⟨World.ownsRow_nil _ _ _ _, fun s hs => by cases hs⟩, by simp [treesTo], Below.refl _ _⟩
      case round =>
        obtain ⟨k, es, hak, hkb, rfl, htr, hes, hnx⟩ := hrel
        by_cases hk : k < b
        · have HTR := Lib.hid htr
          have HES := Lib.hid hes
          have HNX := Lib.hid hnx
          clear htr hes hnx
          go_wp2_with fail
          refine (IH.out (k + 1) b (d + 1) wr (by omega) hb7 (by omega) (by omega) (by omega)).mono ?_
          rintro e w2 ⟨v2, es2, rfl, htr2, hes2, hb2⟩
          have HTR2 := Lib.hid htr2
          have HES2 := Lib.hid hes2
          have HB2 := Lib.hid hb2
          clear htr2 hes2 hb2
          go_wp2_with fail
          refine (IH.out a k (d + 1) w2 hak (by omega) (by omega) (by omega) (by omega)).mono ?_
          rintro e w3 ⟨v3, es3, rfl, htr3, hes3, hb3⟩
          have HB3 : Hid (Below w.heap.size w w3) := below_on (below_on HNX.out HB2.out) hb3
          have HST := Lib.hid (St.start HTR.out (below_on HB2.out hb3) HTR2.out hb3 htr3 HB2.out.size)
          have hn2 := sl_n HTR2.out.tags HES2.out (m := 7) (fun L hL => by have := trees_len f (k + 1) b (d + 1) (by omega) (by omega) L hL; omega)
          have hn3 := sl_n htr3.tags hes3 (m := 7) (fun L hL => by have := trees_len f a k (d + 1) hak (by omega) L hL; omega)
          obtain ⟨A3, c3, rfl⟩ := htr3.own.len
          obtain ⟨A2, c2, rfl⟩ := HTR2.out.own.len
          have HN2 := Lib.hid hn2
          have HN3 := Lib.hid hn3
          have HES3 := Lib.hid hes3
          have hbd := treesTo_le f a b d (k + 1) (by omega) hlt (by omega) (by omega) (by omega)
          have hts := treesTo_succ f a b d k hak
          have hts2 : treesTo f a b d (k + 1) = treesTo f a b d k ++ (es3.map Sl.L).flatMap (both k d (es2.map Sl.L)) := by
            rw [hts, hes3, HES2.out]
            rfl
          have HTS := Lib.hid hts2
          rw [hts2, List.length_append, mid_len, List.length_map, List.length_map] at hbd
          have HBD := Lib.hid hbd
          clear htr3 hes3 hb3 hn2 hn3 hts hts2 hbd HTR HTR2 HB2 HNX
          obtain ⟨n2, hn2⟩ : ∃ n2, es2.length = n2 := ⟨_, rfl⟩
          obtain ⟨n3, hn3⟩ : ∃ n3, es3.length = n3 := ⟨_, rfl⟩
          rw [hn2, hn3] at HBD
          rw [hn2, hn3] at HST
          rw [hn2, hn3]
          have HL2 := Lib.hid hn2
          have HL3 := Lib.hid hn3
          clear hn2 hn3
          have hn2b : n2 ≤ 1000 := by
            have h1 := trees_cnt f (k + 1) b (d + 1)
            have h2 := scnt_le f (by omega) (k + 1) (by omega) b (by omega)
            rw [← HES2.out, List.length_map, HL2.out] at h1
            omega
          have hn3b : n3 ≤ 1000 := by
            have h1 := trees_cnt f a k (d + 1)
            have h2 := scnt_le f (by omega) a (by omega) k (by omega)
            rw [← HES3.out, List.length_map, HL3.out] at h1
            omega
          obtain ⟨T0, HT0⟩ : ∃ T0, Hid (treesTo f a b d k = T0) := ⟨_, Lib.hid rfl⟩
          rw [HT0.out] at HES HTS HBD
          go_wp2
          go_loopw [7, 38] (fun u iv wz => ∃ (i : Nat) (es : List Sl), i ≤ n3 ∧ iv = .int .i64 i ∧ St w.heap.size wz u (.slice A2 n2 c2) (.slice A3 n3 c3) es es2 es3 ∧ es.map Sl.L = T0 ++ ((es3.map Sl.L).take i).flatMap (both k d (es2.map Sl.L)) ∧ Below w.heap.size w wz) (fun _ iv _ => n3 - (intOf iv).toNat)
          case atStart => exact ⟨0, es, Nat.zero_le _, rfl, HST.out, by simpa using HES.out, HB3.out⟩
          case round =>
            obtain ⟨i, es', hi, rfl, hst, hes', hnz⟩ := hrel
            have HST' := Lib.hid hst
            have HES' := Lib.hid hes'
            have HNZ := Lib.hid hnz
            clear hst hes' hnz
            by_cases hlt3 : i < n3
            · have hil : i < es3.length := by rw [HL3.out]; exact hlt3
              obtain ⟨g3, cap3, hv3, hg3, hc3⟩ := HST'.out.r3.own.at_ (by omega)
              rw [HL3.out] at hv3
              cases hv3
              have hci : wr.cell? ⟨g3, i, none⟩ = some es3[i].val := hc3 i hil
              have hmemL : es3[i] ∈ es3 := List.getElem_mem hil
              have hms := mid_step k d (es3.map Sl.L) (es2.map Sl.L) i (by simpa using hil)
              rw [List.getElem_map] at hms
              have HMS := Lib.hid hms
              have hMl : es'.length + n2 ≤ 429 := by
                have h1 : es'.length = T0.length + i * n2 := by
                  have := congrArg List.length HES'.out
                  rw [List.length_map, List.length_append, mid_len, List.length_map, HL2.out, List.length_take, List.length_map, HL3.out, Nat.min_eq_left hi] at this
                  exact this
                have h2 := HBD.out
                have h3 : (i + 1) * n2 ≤ n3 * n2 := Nat.mul_le_mul_right _ (by omega)
                rw [Nat.add_mul] at h3
                omega
              generalize es3[i] = sL at *
              have HML := Lib.hid hmemL
              have hsLn := HN3.out sL hmemL
              obtain ⟨M, hM⟩ : ∃ M, es'.map Sl.L = M := ⟨_, rfl⟩
              have HM := Lib.hid hM
              have hMlen : M.length = es'.length := by rw [← hM]; simp
              have HMLEN := Lib.hid hMlen
              clear hc3 hms hmemL hM hMlen
              go_wp2
              go_loopw [7, 44] (fun u jv wz => ∃ (j : Nat) (es : List Sl), j ≤ n2 ∧ jv = .int .i64 j ∧ St w.heap.size wz u (.slice A2 n2 c2) (.slice (some ⟨g3, 0, none⟩) n3 c3) es es2 es3 ∧ es.map Sl.L = M ++ both k d ((es2.map Sl.L).take j) sL.L ∧ Below w.heap.size w wz) (fun _ jv _ => n2 - (intOf jv).toNat)
              case atStart => exact ⟨0, es', Nat.zero_le _, rfl, HST'.out, by rw [HM.out]; simp [both], HNZ.out⟩
              case round =>
                obtain ⟨j, es6, hj, rfl, hst6, hes6, hny⟩ := hrel
                have HST6 := Lib.hid hst6
                have HES6 := Lib.hid hes6
                have HNY := Lib.hid hny
                clear hst6 hes6 hny
                by_cases hlt2 : j < n2
                · have hjl : j < es2.length := by rw [HL2.out]; exact hlt2
                  obtain ⟨g2, cap2, hv2, hg2, hc2⟩ := HST6.out.r2.own.at_ (by omega)
                  rw [HL2.out] at hv2
                  cases hv2
                  have hcj : wr.cell? ⟨g2, j, none⟩ = some es2[j].val := hc2 j hjl
                  have hmemR : es2[j] ∈ es2 := List.getElem_mem hjl
                  have hins := in_step k d (es2.map Sl.L) sL.L j (by simpa using hjl)
                  rw [List.getElem_map] at hins
                  have HINS := Lib.hid hins
                  have hlen6 : es6.length ≤ 429 := by
                    have := congrArg List.length HES6.out
                    rw [List.length_map, List.length_append, both_len, List.length_take, List.length_map, HL2.out, Nat.min_eq_left hj, HMLEN.out] at this
                    omega
                  generalize es2[j] = sR at *
                  have hsRn := HN2.out sR hmemR
                  have hokL := (HST6.out.r3.tags sL HML.out).ok
                  have hokR := (HST6.out.r2.tags sR hmemR).ok
                  have HOKL := Lib.hid hokL
                  have HOKR := Lib.hid hokR
                  clear hc2 hins hmemR hokL hokR
                  obtain ⟨o1, HO1⟩ : ∃ o1, Hid (o1 = Obj.cells #[Value.int IntKind.i64 k, I d] 42) := ⟨_, Lib.hid rfl⟩
                  have hb1 : Below wr.heap.size wr (wr.alloc o1) := (Below.refl _ _).alloc (Nat.le_refl _) _
                  have hrs : RS ((wr.alloc o1).alloc (.cells #[sL.val, .slice (some ⟨wr.heap.size, 0, none⟩) 1 1, sR.val] 22)) (some ⟨wr.heap.size + 1, 0, none⟩) 3 3 [sL, ⟨some ⟨wr.heap.size, 0, none⟩, 1, 1, [((k : Int), (d : Int))]⟩, sR] := by
                    rw [show wr.heap.size + 1 = (wr.alloc o1).heap.size by simp]
                    have hone : (⟨some ⟨wr.heap.size, 0, none⟩, 1, 1, [((k : Int), (d : Int))]⟩ : Sl).ok (wr.alloc o1) := by
                      rw [HO1.out]
                      exact ps_one wr k d
                    exact rs_three (s2 := ⟨some ⟨wr.heap.size, 0, none⟩, 1, 1, [((k : Int), (d : Int))]⟩) (PS.below HOKL.out hb1) hone (PS.below HOKR.out hb1)
                  have HRS := Lib.hid hrs
                  have HB1 := Lib.hid hb1
                  clear hrs hb1
                  go_wp2_with fail
                  rw [← HO1.out]
                  refine (Concat_any _ 3 3 _ _ HRS.out (by omega) (by simp [sumN]; omega) (by simp [sumN]; omega)).mono ?_
                  rintro e w5 ⟨v5, rfl, hown5, hb5⟩
                  have hbw5 : Below wr.heap.size wr w5 := (HB1.out.alloc HB1.out.size _).trans (hb5.mono (by simp; omega))
                  obtain ⟨s5, rfl, hL5, htag5⟩ := Sl.tag.of_own hown5
                  have hL5' : s5.L = sL.L ++ ((k : Int), (d : Int)) :: sR.L := by rw [hL5]; simp [catL]
                  have HL5 := Lib.hid hL5'
                  have HST5 := Lib.hid ((HST6.out.below hbw5).below ((Below.refl _ _).alloc (Nat.le_refl _) (.cells #[s5.val] 22)))
                  have HTAG5 := Lib.hid (htag5.below ((Below.refl _ _).alloc (Nat.le_refl _) (.cells #[s5.val] 22)))
                  have hnw5 : Below w.heap.size w (w5.alloc (.cells #[s5.val] 22)) := (below_on HNY.out hbw5).alloc (below_on HNY.out hbw5).size _
                  have HNW5 := Lib.hid hnw5
                  clear hown5 hb5 hbw5 hL5 hL5' htag5 hnw5 HRS HB1 HOKL HOKR
                  go_wp2_with (at_builtin; refine wpList_append_own_at _ rfl (.tmp 52) (.tmp 58) 48 rfl w.heap.size 22 i0 _ 1 24 Try.underlying48 HI.out HZ0.out HZ1.out HZ2.out rfl (by omega) u7 es6.length (es6.map Sl.val) rfl HST5.out.row.own ⟨w5.heap.size, 0, none⟩ 1 1 [s5.val] rfl rfl (cell_one_new _ _ _) (one_val s5) (by unfold maxLen; omega) (by omega) HNW5.out.size ?_; intro v6 w6 hown6 hgrow6 _ hat6)
                  have hst6 := HST5.out.append HTAG5.out (by unfold OwnT; simpa using hown6) hgrow6 hat6
                  have HST7 := Lib.hid hst6
                  have HES7 : Hid ((es6 ++ [s5]).map Sl.L = M ++ both k d ((es2.map Sl.L).take (j + 1)) sL.L) := by
                    show _ = _
                    rw [List.map_append, HES6.out, HINS.out, List.map_cons, List.map_nil, HL5.out, List.append_assoc]
                  have HNX7 : Hid (Below w.heap.size w w6) := HNW5.out.grown hgrow6 HNW5.out.size (own_ge1 HST5.out.row.own)
                  clear hown6 hgrow6 hat6 hst6
                  go_roundw
                  case rel => exact ⟨j + 1, es6 ++ [s5], by omega, by go_num, HST7.out, HES7.out, HNX7.out⟩
                  case measure => simp [intOf]; omega
                · have HES8 : Hid (es6.map Sl.L = T0 ++ ((es3.map Sl.L).take (i + 1)).flatMap (both k d (es2.map Sl.L))) := by
                    show _ = _
                    rw [HES6.out, HMS.out, List.take_of_length_le (by rw [List.length_map, HL2.out]; omega), ← HM.out, HES'.out, List.append_assoc]
                  go_wp2
                  go_roundw
                  case rel => exact ⟨i + 1, es6, by omega, by go_num, HST6.out, HES8.out, HNY.out⟩
                  case measure => simp [intOf]; omega
            · have HES9 : Hid (es'.map Sl.L = treesTo f a b d (k + 1)) := by
                show _ = _
                rw [HES'.out, HTS.out, List.take_of_length_le (by rw [List.length_map, HL3.out]; omega)]
              go_wp2
              go_roundw
              case rel => exact ⟨k + 1, es', by omega, by omega, by go_num, HST'.out.row, HES9.out, HNZ.out⟩
              case measure => simp [intOf]; omega
        · obtain rfl : k = b := by omega
          have HTR := Lib.hid htr
          have HES : Hid (es.map Sl.L = trees (f + 1) a k d) := hes.trans HTE.out.symm
          have HNX := Lib.hid hnx
          clear htr hes hnx
          go_wp2
          go_ret
          exact ⟨u7, es, rfl, HTR.out, HES.out, HNX.out⟩

end Go.Proofs.Ytconegligedniaa
