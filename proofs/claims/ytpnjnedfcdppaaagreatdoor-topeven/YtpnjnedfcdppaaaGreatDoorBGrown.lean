/-
  (*costTable).grown, best.Tree.
-/
import Derived.Test.YtpnjnedfcdppaaaGreatDoorBCosts
import Derived.Test.YtpnjnedfcdppaaaGreatDoorSOf
import Derived.Test.YtpnjnedfcdppaaaGreatDoorSpotBAll
import Derived.Deep.RegionHeld3
namespace Go.Proofs.YtpnjnedfcdppaaaGreatDoor
open Go.RowKit

set_option maxRecDepth 100000 in
set_option maxHeartbeats 2000000 in
theorem grownB_any (W : Nat → Nat → Int) (n g : Nat) (hn : n ≤ 20) (hW : ∀ i j, i ≤ j → j ≤ n → 0 ≤ W i j ∧ W i j ≤ 41000) : ∀ (m i j d base : Nat) (v : Value) (L : PL) (w : World), j ≤ i + m → i ≤ j → j ≤ n → TQ w g (tbz W n) → g < base → OwnR w base 82 v L → base ≤ w.heap.size → L.length + (j - i) ≤ 1000 → d + (j - i) ≤ 1000 →
    Calls Tryz.prog 73 #[.pointer (some ⟨g, 0, none⟩), v, I i, I j, I d] w (RetSO (L ++ (bt W m i j).sp d) base w)
  | m, i, j, d, base, v, L, w, hm, hij, hj, hq, hg, ho, hb, hL, hd => by
    have HO := Lib.hid ho
    have HQ := Lib.hid hq
    clear ho hq
    by_cases hlt : i < j
    · obtain ⟨m, rfl⟩ : ∃ m', m = m' + 1 := ⟨m - 1, by omega⟩
      have htb := tp_bd (lc W) hlt
      have HT := Lib.hid (topOfB_any g _ i j w HQ.out hlt (by omega) (fun i j => tbz_bd W n hn hW i j))
      rw [tbz_tp W hlt hj] at HT
      obtain ⟨k, hk⟩ : ∃ k, tp (lc W) i j = k := ⟨_, rfl⟩
      have hbt : bt W (m + 1) i j = .node (bt W m i k) (k : Nat) (bt W m (k + 1) j) := by rw [bt, if_pos hlt, hk]
      rw [hbt, Tr.sp]
      rw [hk] at htb HT
      have hs1 := rng_size (bt_rng W m i k (by omega) htb.1)
      have IH1 := Lib.hid (fun w1 (h1 : TQ w1 g (tbz W n)) (h2 : OwnR w1 base 82 v L) (h3 : base ≤ w1.heap.size) => grownB_any W n g hn hW m i k (d + 1) base v L w1 (by omega) htb.1 (by omega) h1 hg h2 h3 (by omega) (by omega))
      have IH2 := Lib.hid (fun v2 w1 (h1 : TQ w1 g (tbz W n)) (h2 : OwnR w1 base 82 v2 (L ++ (bt W m i k).sp ((d : Int) + 1) ++ [((k : Int), (d : Int))])) (h3 : base ≤ w1.heap.size) => grownB_any W n g hn hW m (k + 1) j (d + 1) base v2 _ w1 (by omega) (by omega) hj h1 hg h2 h3 (by simp [sp_length]; omega) (by omega))
      have hl1 : ((bt W m i k).sp ((d : Int) + 1)).length = k - i := by rw [sp_length]; omega
      have e1 : ((d + 1 : Nat) : Int) = (d : Int) + 1 := by omega
      have e2 : ((k + 1 : Nat) : Int) = (k : Int) + 1 := by omega
      rw [e1] at IH1 IH2
      rw [e2] at IH2
      clear hbt hk hs1
      generalize (bt W m i k).sp ((d : Int) + 1) = S1 at *
      generalize (bt W m (k + 1) j).sp ((d : Int) + 1) = S2 at *
      have hne : ((i : Int) == (j : Int)) = false := by simp; omega
      have HL1 := Lib.hid hl1
      clear hl1 e1 e2
      obtain ⟨htb1, htb2⟩ := htb
      go_enter Tryz.func73, Tryz.ntmps73
      go_wp2_with fail
      refine HT.out.mono ?_
      rintro e w1 ⟨rfl, m1, rfl⟩
      go_wp2_with fail
      refine (IH1.out (w.drewN m1) (HQ.out.drewN m1) (own_below HO.out (below_drewN (Below.refl _ _) _)) hb).mono ?_
      rintro e w2 ⟨v2, rfl, ho2, hb2⟩
      have hq2 : TQ w2 g (tbz W n) := (HQ.out.drewN m1).below hb2 hg
      have hbw2 : Below base w w2 := (below_drewN (Below.refl _ _) m1).trans hb2
      have HO2 := Lib.hid ho2
      have HQ2 := Lib.hid hq2
      have HB2 := Lib.hid hbw2
      clear ho2 hb2 hq2 hbw2
      go_wp2_with (first
        | (at_builtin
           refine wpList_app2 rfl (.tmp 27) (.tmp 31) 41 rfl 82 Tryz.underlying41 spot_info base v2 (L ++ S1) [((k : Int), (d : Int))] (some ⟨w2.heap.size, 0, none⟩) 1 1 rfl rfl (own_below HO2.out ((Below.refl _ _).alloc (Nat.le_refl _) _)) (src_one w2 k d) ?hbd ?hbs ?_
           case hbd => simp; have := HL1.out; omega
           case hbs => have := HB2.out.size; simp; omega
           intro v3 w3 hown3 hgrow3 hat3)
        | fail)
      have hbw3 : Below base w w3 := (HB2.out.alloc (by have := HB2.out.size; omega) _).grown hgrow3 (by have := HB2.out.size; simp; omega) (OwnR.ge HO2.out)
      have hq3 : TQ w3 g (tbz W n) := HQ.out.below hbw3 hg
      have HO3 : Hid (OwnR w3 base 82 v3 (L ++ S1 ++ [((k : Int), (d : Int))])) := hown3
      have HQ3 := Lib.hid hq3
      have HB3 := Lib.hid hbw3
      clear hown3 hgrow3 hat3 hbw3 hq3
      go_wp2_with fail
      refine (IH2.out v3 w3 HQ3.out HO3.out (by have := HB3.out.size; omega)).mono ?_
      rintro e w4 ⟨v4, rfl, ho4, hb4⟩
      have HO4 := Lib.hid ho4
      have HB4 := Lib.hid (HB3.out.trans hb4)
      clear ho4 hb4
      go_wp2
      go_ret
      exact ⟨v4, rfl, by simpa using HO4.out, HB4.out⟩
    · obtain rfl : i = j := by omega
      have hbt : bt W m i i = .nil := by cases m with | zero => rfl | succ m => rw [bt, if_neg (by omega)]
      rw [hbt]
      have he : ((i : Int) == (i : Int)) = true := by simp
      clear hbt
      go_enter Tryz.func73, Tryz.ntmps73
      go_wp2
      go_ret
      exact ⟨v, rfl, by simpa [Tr.sp] using HO.out, Below.refl _ _⟩
  termination_by m => m

end Go.Proofs.YtpnjnedfcdppaaaGreatDoor
