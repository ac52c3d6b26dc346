/-
  Joined texts: YtpnjnedfcdppaaaGreatDoorBGrown, YtpnjnedfcdppaaaGreatDoorBTree.
-/
import Derived.Test.YtpnjnedfcdppaaaGreatDoorBCostsAll
import Derived.Test.YtpnjnedfcdppaaaGreatDoorSOf
import Derived.Test.YtpnjnedfcdppaaaGreatDoorSOrdAll
import Derived.Deep.RegionHeld3
/-
  (*costTable).grown, best.Tree.
-/
namespace Go.Proofs.YtpnjnedfcdppaaaGreatDoor
open Go.RowKit

set_option maxRecDepth 100000 in
set_option maxHeartbeats 2000000 in
theorem grownB_any (W : Nat → Nat → Int) (n g : Nat) (hn : n ≤ 20) (hW : ∀ i j, i ≤ j → j ≤ n → 0 ≤ W i j ∧ W i j ≤ 41000) : ∀ (m i j d base : Nat) (v : Value) (L : PL) (w : World), j ≤ i + m → i ≤ j → j ≤ n → TQ w g (tbz W n) → g < base → OwnR w base 82 v L → base ≤ w.heap.size → L.length + (j - i) ≤ 1000 → d + (j - i) ≤ 1000 →
    Calls Tryz.prog 73 #[.pointer (some ⟨g, 0, none⟩), v, I i, I j, I d] w (RetSO (L ++ (bt W m i j).sp d) base w)
  | m, i, j, d, base, v, L, w, hm, hij, hj, hq, hg, ho, hb, hL, hd => by
    have HO := Lib.hid ho
    have HQ := Lib.hid hq
    clear ho hq
    by_cases hlt : i < j
    · obtain ⟨m, rfl⟩ : ∃ m', m = m' + 1 := ⟨m - 1, by omega⟩
      have htb := tp_bd (lc W) hlt
      have HT := Lib.hid (topOfB_any g _ i j w HQ.out hlt (by omega) (fun i j => tbz_bd W n hn hW i j))
      rw [tbz_tp W hlt hj] at HT
      obtain ⟨k, hk⟩ : ∃ k, tp (lc W) i j = k := ⟨_, rfl⟩
      have hbt : bt W (m + 1) i j = .node (bt W m i k) (k : Nat) (bt W m (k + 1) j) := by rw [bt, if_pos hlt, hk]
      rw [hbt, Tr.sp]
      rw [hk] at htb HT
      have hs1 := rng_size (bt_rng W m i k (by omega) htb.1)
      have IH1 := Lib.hid (fun w1 (h1 : TQ w1 g (tbz W n)) (h2 : OwnR w1 base 82 v L) (h3 : base ≤ w1.heap.size) => grownB_any W n g hn hW m i k (d + 1) base v L w1 (by omega) htb.1 (by omega) h1 hg h2 h3 (by omega) (by omega))
      have IH2 := Lib.hid (fun v2 w1 (h1 : TQ w1 g (tbz W n)) (h2 : OwnR w1 base 82 v2 (L ++ (bt W m i k).sp ((d : Int) + 1) ++ [((k : Int), (d : Int))])) (h3 : base ≤ w1.heap.size) => grownB_any W n g hn hW m (k + 1) j (d + 1) base v2 _ w1 (by omega) (by omega) hj h1 hg h2 h3 (by simp [sp_length]; omega) (by omega))
      have hl1 : ((bt W m i k).sp ((d : Int) + 1)).length = k - i := by rw [sp_length]; omega
      have e1 : ((d + 1 : Nat) : Int) = (d : Int) + 1 := by omega
      have e2 : ((k + 1 : Nat) : Int) = (k : Int) + 1 := by omega
      rw [e1] at IH1 IH2
      rw [e2] at IH2
      clear hbt hk hs1
      generalize (bt W m i k).sp ((d : Int) + 1) = S1 at *
      generalize (bt W m (k + 1) j).sp ((d : Int) + 1) = S2 at *
      have hne : ((i : Int) == (j : Int)) = false := by simp; omega
      have HL1 := Lib.hid hl1
      clear hl1 e1 e2
      obtain ⟨htb1, htb2⟩ := htb
      go_enter Tryz.func73, Tryz.ntmps73
      go_wp2_with fail
      refine HT.out.mono ?_
      rintro e w1 ⟨rfl, m1, rfl⟩
      go_wp2_with fail
      refine (IH1.out (w.drewN m1) (HQ.out.drewN m1) (own_below HO.out (below_drewN (Below.refl _ _) _)) hb).mono ?_
      rintro e w2 ⟨v2, rfl, ho2, hb2⟩
      have hq2 : TQ w2 g (tbz W n) := (HQ.out.drewN m1).below hb2 hg
      have hbw2 : Below base w w2 := (below_drewN (Below.refl _ _) m1).trans hb2
      have HO2 := Lib.hid ho2
      have HQ2 := Lib.hid hq2
      have HB2 := Lib.hid hbw2
      clear ho2 hb2 hq2 hbw2
      go_wp2_with (first
        | (at_builtin
           refine wpList_app2 rfl (.tmp 27) (.tmp 31) 41 rfl 82 Tryz.underlying41 spot_info base v2 (L ++ S1) [((k : Int), (d : Int))] (some ⟨w2.heap.size, 0, none⟩) 1 1 rfl rfl (own_below HO2.out ((Below.refl _ _).alloc (Nat.le_refl _) _)) (src_one w2 k d) ?hbd ?hbs ?_
           case hbd => simp; have := HL1.out; omega
           case hbs => have := HB2.out.size; simp; omega
           intro v3 w3 hown3 hgrow3 hat3)
        | fail)
      have hbw3 : Below base w w3 := (HB2.out.alloc (by have := HB2.out.size; omega) _).grown hgrow3 (by have := HB2.out.size; simp; omega) (OwnR.ge HO2.out)
      have hq3 : TQ w3 g (tbz W n) := HQ.out.below hbw3 hg
      have HO3 : Hid (OwnR w3 base 82 v3 (L ++ S1 ++ [((k : Int), (d : Int))])) := hown3
      have HQ3 := Lib.hid hq3
      have HB3 := Lib.hid hbw3
      clear hown3 hgrow3 hat3 hbw3 hq3
      go_wp2_with fail
      refine (IH2.out v3 w3 HQ3.out HO3.out (by have := HB3.out.size; omega)).mono ?_
      rintro e w4 ⟨v4, rfl, ho4, hb4⟩
      have HO4 := Lib.hid ho4
      have HB4 := Lib.hid (HB3.out.trans hb4)
      clear ho4 hb4
      go_wp2
      go_ret
      exact ⟨v4, rfl, by simpa using HO4.out, HB4.out⟩
    · obtain rfl : i = j := by omega
      have hbt : bt W m i i = .nil := by cases m with | zero => rfl | succ m => rw [bt, if_neg (by omega)]
      rw [hbt]
      have he : ((i : Int) == (i : Int)) = true := by simp
      clear hbt
      go_enter Tryz.func73, Tryz.ntmps73
      go_wp2
      go_ret
      exact ⟨v, rfl, by simpa [Tr.sp] using HO.out, Below.refl _ _⟩
  termination_by m => m

end Go.Proofs.YtpnjnedfcdppaaaGreatDoor

/-
  best.Tree.
-/
namespace Go.Proofs.YtpnjnedfcdppaaaGreatDoor
open Go.RowKit

/-- the best tree, its cost, no error -/
def RetBT (t : Tr) (x : Int) (n : Nat) (w : World) (e : Ending) (w' : World) : Prop := ∃ A c, e = .returned (.tuple #[.slice A n c, I x, I 0]) ∧ PS w' A n c (t.sp 0) ∧ Below w.heap.size w w'

set_option maxRecDepth 100000 in
set_option maxHeartbeats 2000000 in
theorem TreeB_bad (A A' : Option Addr) (n c n' c' : Nat) (hits gaps : List Int) (w : World) (h : IS w A n c hits) (h' : IS w A' n' c' gaps) (hn : n ≤ 9223372036854775807) (hn' : n' ≤ 9223372036854775807) (E : Int) (hE : chkB hits gaps = E) (hE0 : E ≠ 0) :
    Calls Tryz.prog 31 #[.slice A n c, .slice A' n' c'] w fun e w' => e = .returned (.tuple #[.slice none 0 0, I 0, I E]) ∧ w = w' := by
  have HC := Lib.hid (checkB_any A A' n c n' c' hits gaps w h h' hn hn')
  rw [hE] at HC
  have hne : (E != 0) = true := by simpa using hE0
  clear h h' hE hE0
  go_enter Tryz.func31, Tryz.ntmps31
  go_wp2_with fail
  refine HC.out.mono ?_
  rintro e w1 ⟨rfl, rfl⟩
  go_wp2
  go_ret3
  exact ⟨rfl, rfl⟩

set_option maxRecDepth 100000 in
set_option maxHeartbeats 4000000 in
theorem TreeB_ok (A A' : Option Addr) (n c c' : Nat) (hits gaps : List Int) (w : World) (h : IS w A n c hits) (h' : IS w A' (n + 1) c' gaps) (hI : InB hits gaps n) :
    Calls Tryz.prog 31 #[.slice A n c, .slice A' (n + 1) c'] w (RetBT (bt (wij hits gaps) 20 0 n) (lc (wij hits gaps) 0 n) n w) := by
  have hn := hI.n20
  have HC := Lib.hid (checkB_any A A' n c (n + 1) c' hits gaps w h h' (by omega) (by omega))
  rw [chkB_in hI] at HC
  have HT := Lib.hid (costsOf_any A A' n c c' hits gaps w h h' hI)
  have HW : Hid (∀ i j, i ≤ j → j ≤ n → 0 ≤ wij hits gaps i j ∧ wij hits gaps i j ≤ 41000) := fun i j _ h2 => wij_bd hI.hh hI.hg i j (by omega)
  clear h h' hI
  generalize wij hits gaps = W at *
  have hz := (zero_of_info tab_zero).1
  obtain ⟨Z, hZ⟩ : ∃ Z, (tabV fun _ _ => 0).toArray = Z := ⟨_, rfl⟩
  rw [hZ] at hz
  have HZ := Lib.hid hZ
  obtain ⟨O, HO, hmk⟩ : ∃ O, Hid (O = .cells (flat (List.replicate n (0, 0))).toArray 82) ∧ ∀ w, (Instr.makeSlice 41 (.int .i64 0) (.int .i64 (n : Int))).run Tryz.prog w = .ok (.slice (some ⟨w.heap.size, 0, none⟩) 0 n) (w.alloc O) :=
    ⟨_, Lib.hid rfl, fun w => run_makeR (P := Tryz.prog) 41 82 Tryz.underlying41 spot_info 0 n (by omega) (by omega) w⟩
  clear hZ
  go_enter Tryz.func31, Tryz.ntmps31
  go_wp2_with fail
  refine HC.out.mono ?_
  rintro e w1 ⟨rfl, rfl⟩
  go_wp2_with fail
  refine HT.out.mono ?_
  rintro e w2 ⟨rfl, hb2⟩
  have HB2 := Lib.hid hb2
  have hnew : TQ (w2.alloc (.cells Z 129)) w2.heap.size (fun _ _ => 0) := by rw [← HZ.out]; exact TQ.new w2 _
  have HNEW := Lib.hid hnew
  clear hb2 hnew
  go_wp2_with (first
    | (refine wpList_store_row rfl 129 (.tmp 9) (.tmp 20) rfl w2.heap.size _ rfl rfl _ _ HNEW.out (tab_size _) (by simp [tabV_length]) (tabV_one _) ?_)
    | fail)
  obtain ⟨wf, hwf⟩ : ∃ wf, (w2.alloc (.cells Z 129)).setRow w2.heap.size (tabV (tbz W n)).toArray = wf := ⟨_, rfl⟩
  have hqf : TQ wf w2.heap.size (tbz W n) := by rw [← hwf]; exact HNEW.out.row _
  have hbf : Below w.heap.size w wf := by rw [← hwf]; exact below_row (HB2.out.alloc HB2.out.size _) HB2.out.size _
  rw [hwf]
  clear hwf HNEW hz
  generalize w2.heap.size = g at *
  have hlf := hqf.lt
  obtain ⟨z, hz0⟩ : ∃ z, lc W 0 n = z := ⟨_, rfl⟩
  have hcl := hqf.cell (i := 0) (j := n) (by omega) (by omega)
  rw [Nat.zero_mul, Nat.zero_add, tbz_at W (Nat.le_refl _), hz0] at hcl
  have HZ0 := Lib.hid hz0
  clear hz0
  have HQF := Lib.hid hqf
  have HBF := Lib.hid hbf
  have HGR : Hid (∀ W1, TQ W1 g (tbz W n) → OwnR W1 wf.heap.size 82 (.slice (some ⟨wf.heap.size, 0, none⟩) 0 n) [] → wf.heap.size ≤ W1.heap.size → Calls Tryz.prog 73 #[.pointer (some ⟨g, 0, none⟩), .slice (some ⟨wf.heap.size, 0, none⟩) 0 n, .int .i64 0, .int .i64 n, .int .i64 0] W1 (RetSO ((bt W 20 0 n).sp 0) wf.heap.size W1)) := fun W1 h1 h2 h3 =>
    grownB_any W n g hn HW.out 20 0 n 0 wf.heap.size _ [] W1 (by omega) (by omega) (Nat.le_refl _) h1 hlf h2 h3 (by simp; omega) (by omega)
  have hown : OwnR (wf.alloc O) wf.heap.size 82 (.slice (some ⟨wf.heap.size, 0, none⟩) 0 n) [] := by
    rw [HO.out]
    exact ⟨rfl, .inr ⟨wf.heap.size, n, _, rfl, Nat.le_refl _, heap_alloc_new wf _, Nat.zero_le _, by unfold maxLen; omega, by simp [flat_length], rfl⟩⟩
  have HOWN := Lib.hid hown
  have hrs := rng_size (bt_rng W 20 0 n (by omega) (by omega))
  have HLEN : Hid (((bt W 20 0 n).sp 0).length = n) := by show _ = _; rw [sp_length]; omega
  have ck : ∀ o : Obj, (wf.alloc o).cell? ⟨g, n, none⟩ = some (I z) := fun o => by
    rw [World.cell?_alloc_lt]
    · exact hcl
    · exact hlf
  have hqo : TQ (wf.alloc O) g (tbz W n) := HQF.out.below ((Below.refl wf.heap.size wf).alloc (Nat.le_refl _) O) hlf
  have HQO : Hid (TQ (wf.alloc O).drew g (tbz W n)) := hqo
  have HOD : Hid (OwnR (wf.alloc O).drew wf.heap.size 82 (.slice (some ⟨wf.heap.size, 0, none⟩) 0 n) []) := HOWN.out
  have hn1 : (n : Int) < 21 := by omega
  have hn2 : 0 ≤ (n : Int) := by omega
  clear hqf hbf hown hrs hqo
  obtain ⟨S, hS⟩ : ∃ S, (bt W 20 0 n).sp 0 = S := ⟨_, rfl⟩
  rw [hS] at HGR HLEN
  have HS := Lib.hid hS
  clear hS
  go_region_held3 (fun W1 => W1.cell? ⟨g, n, none⟩ = some (I z))
    (first
      | exact hcl
      | exact d0
      | exact ck _)
    (first
      | (go_at_call 73
         with_reducible refine (HGR.out _ HQO.out HOD.out (by simp)).mono ?_
         rintro e w4 ⟨v4, rfl, ho4, hb4⟩
         have hbw4 : Below wf.heap.size wf w4 := by
           first
             | exact (((Below.refl wf.heap.size wf).alloc (Nat.le_refl _) O).drew).trans hb4
             | exact ((Below.refl wf.heap.size wf).alloc (Nat.le_refl _) O).trans hb4
         have d0 : w4.cell? ⟨g, n, none⟩ = some (I z) := (hbw4.cell (by exact hlf)).trans hcl
         have HO4 := Lib.hid ho4
         have HB4 := Lib.hid hbw4
         clear ho4 hb4 hbw4))
  obtain ⟨A4, c4, rfl, hps, _⟩ := HO4.out.ps
  have HPS := Lib.hid hps
  clear hps
  rw [HLEN.out] at HPS ⊢
  go_wp2
  go_ret3
  exact ⟨A4, c4, by rw [HZ0.out]; rfl, by rw [HS.out]; exact HPS.out, HBF.out.trans (HB4.out.mono HBF.out.size)⟩

end Go.Proofs.YtpnjnedfcdppaaaGreatDoor
