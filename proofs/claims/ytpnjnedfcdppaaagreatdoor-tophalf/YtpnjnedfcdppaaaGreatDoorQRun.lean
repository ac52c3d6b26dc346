/-
  package half: Run.
-/
import Derived.Test.YtpnjnedfcdppaaaGreatDoorQDo2
namespace Go.Proofs.YtpnjnedfcdppaaaGreatDoor
open Go.RowKit Go.Maps

def RetQR (l : List Int) (a : List An) (er : Int) (w : World) (e : Ending) (w' : World) : Prop :=
  ∃ A n c A' n' c', e = .returned (.tuple #[.slice A n c, .slice A' n' c', I er]) ∧ IS w' A n c l ∧ AS w' A' n' c' a ∧ Below w.heap.size w w'
/-- what the answers' row holds behind k rounds -/
def hTo (ops : List OP) (k : Nat) : List An := (hR (ops.take k)).2 ++ List.replicate (ops.length - k) an0
theorem hTo_len (ops : List OP) (k : Nat) (h : k ≤ ops.length) : (hTo ops k).length = ops.length := by
  simp [hTo, hR_len]; omega
theorem hTo_succ (ops : List OP) (k : Nat) (h : k < ops.length) : (hTo ops k).set k (hA (hR (ops.take k)).1 ops[k]) = hTo ops (k + 1) := by
  unfold hTo
  have hl : (hR (ops.take k)).2.length = k := by rw [hR_len, List.length_take]; omega
  rw [List.set_append_right _ _ (by omega), hl, Nat.sub_self, show ops.length - k = ops.length - (k + 1) + 1 by omega, List.replicate_succ, List.set_cons_zero, hR_succ ops k h]
  simp [hS]

set_option maxRecDepth 100000 in
set_option maxHeartbeats 1000000 in
theorem QRun_large (A : Option Addr) (n c : Nat) (w : World) (hn : 300 < n) (hm : n ≤ 9223372036854775807) :
    Calls Tryz.prog 36 #[.slice A n c] w (RetQR [] [] 2 w) := by
  go_enter Tryz.func36, Tryz.ntmps36
  go_wp2
  go_ret3
  exact ⟨none, 0, 0, none, 0, 0, rfl, ⟨rfl, Rd.none_⟩, ⟨rfl, Rd.none_⟩, Below.refl _ _⟩

set_option maxRecDepth 100000 in
set_option maxHeartbeats 4000000 in
theorem QRun_any (A : Option Addr) (n c : Nat) (ops : List OP) (w : World) (h : OS w A n c ops) (hn : n ≤ 300) :
    Calls Tryz.prog 36 #[.slice A n c] w (RetQR (hR ops).1 (hR ops).2 0 w) := by
  have hmk := fun W => run_makeA (P := Tryz.prog) 34 51 Tryz.underlying34 ans_info n (by omega) W
  have H := Lib.hid h
  have Hlen := Lib.hid h.len
  clear h
  have hb0 : Below w.heap.size w (w.alloc (.cells (flatA (List.replicate n an0)).toArray 51)) := (Below.refl _ _).alloc (Nat.le_refl _) _
  have hq0 : QB (w.alloc (.cells (flatA (List.replicate n an0)).toArray 51)) w.heap.size 51 (hTo ops 0) := by
    have : hTo ops 0 = List.replicate n an0 := by simp [hTo, hR, Hlen.out]
    rw [this]
    exact QB.new _ _ _
  have HB0 := Lib.hid hb0
  have HQ0 := Lib.hid hq0
  clear hb0 hq0
  go_enter Tryz.func36, Tryz.ntmps36
  go_wp2
  go_loopw [5, 17] (fun v i wr => ∃ (k : Nat) (p : Option Nat) (P : Option Addr) (F : Nat → Prop), k ≤ n ∧ i = .int .i64 k ∧ v = .pointer P ∧ qp p = .pointer P ∧ QR 4 wr (31 * k) p (· ∈ (hR (ops.take k)).1) F ∧ (∀ x, F x → w.heap.size + 1 ≤ x ∧ x < wr.heap.size) ∧ QB wr w.heap.size 51 (hTo ops k) ∧ Below w.heap.size w wr) (fun _ i _ => n - (intOf i).toNat)
  case atStart => exact ⟨0, none, none, fun _ => False, Nat.zero_le _, rfl, rfl, rfl, QR.none_iff.2 (by simp [hR]), fun _ h => h.elim, HQ0.out, HB0.out⟩
  case round =>
    obtain ⟨k, p, P, F, hk, rfl, rfl, hP, hqr, hF, hq, hnx⟩ := hrel
    have hsz := hnx.size
    have hqlt := hq.lt
    by_cases hlt : k < n
    · obtain ⟨b, off, rfl, hb, hc⟩ := H.out.at_ (by omega)
      have hkl : k < ops.length := by have := Hlen.out; omega
      have hc0 : wr.cell? ⟨b, off + k * 3, none⟩ = some (I ops[k].1) := (hnx.cell (by exact hb)).trans (hc k hlt).1
      have hc1 : wr.cell? ⟨b, off + k * 3 + 1, none⟩ = some (I ops[k].2.1) := (hnx.cell (by exact hb)).trans (hc k hlt).2.1
      have hc2 : wr.cell? ⟨b, off + k * 3 + 2, none⟩ = some (I ops[k].2.2) := (hnx.cell (by exact hb)).trans (hc k hlt).2.2
      have HQ := Lib.hid hq
      have HNX := Lib.hid hnx
      have HQL := Lib.hid hqlt
      have HF := Lib.hid hF
      have HTS := Lib.hid (hTo_succ ops k hkl)
      have HTL := Lib.hid (hTo_len ops k (by omega))
      have HKL := Lib.hid hkl
      have HRS : Hid ((hR (ops.take (k + 1))).1 = hL (hR (ops.take k)).1 ops[k]) := by show _ = _; rw [hR_succ ops k hkl]; rfl
      have hba : Below wr.heap.size wr (wr.alloc (.cells #[I ops[k].1, I ops[k].2.1, I ops[k].2.2] 69)) := (Below.refl _ _).alloc (Nat.le_refl _) _
      have HBA := Lib.hid hba
      have HDO := Lib.hid (do_any p (31 * k) (hR (ops.take k)).1 F ops[k].1 ops[k].2.1 ops[k].2.2 _ (hqr.keep fun x hx => hba.block x (hF x hx).2) (fun x hx => Nat.lt_of_lt_of_le (hF x hx).2 hba.size) (hR_up _).1 (by omega))
      rw [hP] at HDO
      have HS : Hid ((wr.alloc (.cells #[I ops[k].1, I ops[k].2.1, I ops[k].2.2] 69)).heap.size = wr.heap.size + 1) := by show _ = _; simp
      have ho : (ops[k].1, ops[k].2.1, ops[k].2.2) = ops[k] := rfl
      rw [ho] at HDO
      clear hc hq hnx hmk hqlt hF hqr hP hba ho
      generalize ops[k] = o at *
      generalize (hR (ops.take k)).1 = L at *
      obtain ⟨kd, ky, vl⟩ := o
      simp only at hc0 hc1 hc2 HDO HBA HS HTS
      go_wp2_with fail
      refine HDO.out.mono ?_
      rintro e w2 ⟨p2, F2, rfl, hr2, hl2, hk2⟩
      have hwb : w2.heap[w.heap.size]? = wr.heap[w.heap.size]? := (hk2.block _ (by have := HS.out; have := HQL.out; omega) (fun e => by have := HF.out _ e; omega)).trans (HBA.out.block _ HQL.out)
      have hq2 : QB w2 w.heap.size 51 (hTo ops k) := by have := HQ.out; unfold QB at this ⊢; rw [hwb]; exact this
      have hal : k < (hTo ops k).length := by rw [HTL.out]; exact HKL.out
      have hcc := flatA_at (hTo ops k) k hal
      have a0 := (hq2.cell _).trans hcc.1
      have a1 := (hq2.cell _).trans hcc.2.1
      have a2 := (hq2.cell _).trans hcc.2.2.1
      have a3 := (hq2.cell _).trans hcc.2.2.2
      have f0 := hq2.frozen (k * 4)
      have f1 := hq2.frozen (k * 4 + 1)
      have f2 := hq2.frozen (k * 4 + 2)
      have f3 := hq2.frozen (k * 4 + 3)
      have hset := hq2.set k (hA L (kd, ky, vl)) hal
      rw [HTS.out] at hset
      have HSET := Lib.hid hset
      have HB2 : Hid (Below w.heap.size w w2) := (HNX.out.trans (HBA.out.mono HNX.out.size)).trans (hk2.below (by have := HS.out; omega) (fun x hx => by have := HF.out x hx; omega))
      have HF2 : Hid (∀ x, F2 x → w.heap.size + 1 ≤ x ∧ x < w2.heap.size) := fun x hx => by
        have h1 := hl2 x hx
        refine ⟨?_, h1.1⟩
        rcases h1.2 with h2 | h2
        · exact (HF.out x h2).1
        · have := HS.out; have := HQL.out; omega
      have HR2 : Hid (QR 4 w2 (31 * (k + 1)) p2 (· ∈ (hR (ops.take (k + 1))).1) F2) := by
        show QR _ _ _ _ _ _
        rw [HRS.out]
        exact QR.mono hr2 (show 31 * k + 31 ≤ 31 * (k + 1) by omega) (fun _ e => e)
      obtain ⟨P2, hP2⟩ : ∃ P2, qp p2 = .pointer P2 := ⟨_, rfl⟩
      have HP2 := Lib.hid hP2
      rw [hP2]
      generalize hA L (kd, ky, vl) = an at *
      obtain ⟨ae, ak, av, ab⟩ := an
      simp only at HSET
      clear hq2 hcc hset hwb hr2 hl2 hk2 hP2
      go_wp2
      go_roundw
      case rel =>
        refine ⟨k + 1, p2, P2, F2, by omega, by go_num, rfl, HP2.out, ?_, ?_, HSET.out, ?_⟩
        · refine HR2.out.keep fun x hx => ?_
          have hne : x ≠ w.heap.size := by have := HF2.out x hx; omega
          rw [Below.heap_setCell _ ⟨w.heap.size, k * 4 + 3, none⟩ _ x hne, Below.heap_setCell _ ⟨w.heap.size, k * 4 + 2, none⟩ _ x hne, Below.heap_setCell _ ⟨w.heap.size, k * 4 + 1, none⟩ _ x hne, Below.heap_setCell _ ⟨w.heap.size, k * 4, none⟩ _ x hne]
        · intro x hx
          refine ⟨(HF2.out x hx).1, ?_⟩
          simp [World.setCell]
          exact (HF2.out x hx).2
        · exact (((HB2.out.setCell (by simp) _).setCell (by simp) _).setCell (by simp) _).setCell (by simp) _
      case measure => simp [intOf]; omega
    · have hkn : k = n := by omega
      subst hkn
      have htk : ops.take k = ops := List.take_of_length_le (by have := Hlen.out; omega)
      have hat : hTo ops k = (hR ops).2 := by unfold hTo; rw [htk, Hlen.out]; simp
      rw [htk] at hqr
      rw [hat] at hq
      have has := hq.as_ (c := k) (by rw [hR_len, Hlen.out]; exact Nat.le_refl _)
      rw [hR_len, Hlen.out] at has
      have HAS := Lib.hid has
      have HNX := Lib.hid hnx
      have hll := hR_le ops
      have HK := Lib.hid (keys_any p (31 * k) (hR ops).1 F wr hqr (fun x hx => (hF x hx).2) (hR_up ops).1 (by have := Hlen.out; omega))
      rw [hP] at HK
      clear has hnx hq hat htk hqlt hmk hqr hF hP hll
      go_wp2_with fail
      refine HK.out.mono ?_
      rintro e w2 ⟨v, rfl, hown, hb2⟩
      obtain ⟨A2, c2, rfl, his, -⟩ := hown.is_
      have HIS := Lib.hid his
      have HA2 := Lib.hid (HAS.out.below hb2)
      have HB2 := Lib.hid (HNX.out.trans (hb2.mono HNX.out.size))
      clear hown his hb2
      go_wp2
      go_ret3
      exact ⟨_, _, _, _, _, _, rfl, HIS.out, HA2.out, HB2.out⟩

end Go.Proofs.YtpnjnedfcdppaaaGreatDoor
