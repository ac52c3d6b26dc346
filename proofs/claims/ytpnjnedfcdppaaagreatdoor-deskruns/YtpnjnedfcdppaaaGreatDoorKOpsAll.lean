/-
  Joined texts: YtpnjnedfcdppaaaGreatDoorAnswered, YtpnjnedfcdppaaaGreatDoorKOps.
-/
import Derived.Test.YtpnjnedfcdppaaaGreatDoorDoneAll
import Derived.Test.YtpnjnedfcdppaaaGreatDoorRanksAll
import Derived.Test.YtpnjnedfcdppaaaGreatDoorInts
import Derived.Maps.AppendAt
import Derived.Test.YtpnjnedfcdppaaaGreatDoorKKeysAll
import Derived.Test.YtpnjnedfcdppaaaGreatDoorOpRows
import Derived.Lib.SliceRun
/-
  Answered.
-/
namespace Go.Proofs.YtpnjnedfcdppaaaGreatDoor
open Go.RowKit

theorem own_of {w w' : World} {base e s n : Nat} {v : Value} {xs : List Value} (h : w.ownsRow base e s v n xs) (hk : ∀ g, v.ownBlock = some g → w'.heap[g]? = w.heap[g]?) : w'.ownsRow base e s v n xs := by
  refine ⟨h.1, ?_⟩
  rcases h.2 with h0 | ⟨g, cap, cur, rfl, h2, h3, h4⟩
  · exact .inl h0
  · exact .inr ⟨g, cap, cur, rfl, h2, (hk g rfl).trans h3, h4⟩
theorem own_lt {w : World} {base e s n : Nat} {v : Value} {xs : List Value} (h : w.ownsRow base e s v n xs) : ∀ g, v.ownBlock = some g → g < w.heap.size := by
  intro g hg
  rcases h.2 with ⟨rfl, _⟩ | ⟨g', cap, cur, rfl, _, h3, _⟩
  · simp [Value.ownBlock] at hg
  · simp [Value.ownBlock] at hg
    subst hg
    rcases Nat.lt_or_ge g' w.heap.size with hlt | hge
    · exact hlt
    · rw [Array.getElem?_eq_none hge] at h3; cases h3
theorem own_far {w : World} {base e s n : Nat} {v : Value} {xs : List Value} (h : w.ownsRow base e s v n xs) {p : Addr} (hp : v.ownBlock ≠ some p.block) (u : Value) : (w.setCell p u).ownsRow base e s v n xs :=
  own_of h fun g hg => Below.heap_setCell w p u g (fun e => hp (by rw [hg, e]))
theorem own_st4 {w : World} {base e s n g : Nat} {v : Value} {xs : List Value} (h : w.ownsRow base e s v n xs) (hp : v.ownBlock ≠ some g) (x y z : Int) (b : Bool) : (st4 w g x y z b).ownsRow base e s v n xs :=
  own_far (p := ⟨g, 3, none⟩) (own_far (p := ⟨g, 2, none⟩) (own_far (p := ⟨g, 1, none⟩) (own_far (p := ⟨g, 0, none⟩) h hp _) hp _) hp _) hp _
theorem PS.grown {w w' : World} {n c : Nat} {A : Option Addr} {l : PL} {row : Option Nat} (h : PS w A n c l) (hg : w.grownBy w' row) (hne : 0 < n → ∀ ad, A = some ad → row ≠ some ad.block) : PS w' A n c l := by
  refine ⟨h.len, h.rd.1, fun hn => ?_⟩
  obtain ⟨b, off, e, hb, hc⟩ := h.rd.2 hn
  refine ⟨b, off, e, Nat.lt_of_lt_of_le hb hg.size, fun i hi j hj => ?_⟩
  rw [World.cell?_of_block (hg.block b hb (fun e' => hne hn _ e e'.symm))]
  exact hc i hi j hj
theorem PS.blk {w : World} {n c : Nat} {A : Option Addr} {l : PL} (h : PS w A n c l) (hn : 0 < n) : ∀ ad, A = some ad → ad.block < w.heap.size := by
  intro ad ha
  obtain ⟨b, off, e, hb, _⟩ := h.rd.2 hn
  rw [e] at ha
  cases ha
  exact hb

def OwnA (w : World) (base : Nat) (v : Value) (L : List An) : Prop := w.ownsRow base 51 4 v L.length (flatA L)
theorem OwnA.as_ {w : World} {base : Nat} {v : Value} {L : List An} (h : OwnA w base v L) : ∃ A c, v = .slice A L.length c ∧ AS w A L.length c L := by
  rcases h.2 with ⟨rfl, h0⟩ | ⟨g, cap, cur, rfl, hb, hg, hnc, _, hsz, htk⟩
  · have hl : L = [] := List.eq_nil_of_length_eq_zero h0
    subst hl
    exact ⟨none, 0, rfl, rfl, Rd.none_⟩
  · refine ⟨_, cap, rfl, rfl, hnc, fun _ => ⟨g, 0, rfl, ?_, fun i hi j hj => ?_⟩⟩
    · rcases Nat.lt_or_ge g w.heap.size with hlt | hge
      · exact hlt
      · rw [Array.getElem?_eq_none hge] at hg; cases hg
    · rw [cell_of_row _ _ _ _ _ _ hg]
      have hl : L[i]?.getD an0 = L[i] := by simp [List.getElem?_eq_getElem hi]
      have hf := flatA_at L i hi
      rw [← htk, List.getElem?_take, List.getElem?_take, List.getElem?_take, List.getElem?_take, if_pos (by omega), if_pos (by omega), if_pos (by omega), if_pos (by omega)] at hf
      rcases (show j = 0 ∨ j = 1 ∨ j = 2 ∨ j = 3 by omega) with rfl | rfl | rfl | rfl
      · simpa [af, hl] using hf.1
      · simpa [af, hl] using hf.2.1
      · simpa [af, hl] using hf.2.2.1
      · simpa [af, hl] using hf.2.2.2

def Mp (w : World) (v : Value) (l : PL) (o : Value) : Prop := ∃ A n c, v = .slice A n c ∧ PS w A n c l ∧ (0 < n → ∀ ad, A = some ad → o.ownBlock ≠ some ad.block)
def RetAns (l : PL) (a : List An) (w : World) (e : Ending) (w' : World) : Prop :=
  ∃ A n c A' n' c', e = .returned (.tuple #[.slice A n c, .slice A' n' c']) ∧ PS w' A n c l ∧ AS w' A' n' c' a ∧ Below w.heap.size w w'

set_option maxRecDepth 100000 in
set_option maxHeartbeats 2000000 in
theorem Answered_any (A : Option Addr) (n c : Nat) (ops : List OP) (w : World) (h : OS w A n c ops) (hn : n ≤ 300) :
    Calls Tryz.prog 111 #[.slice A n c] w (RetAns (runR ops).1 (runR ops).2 w) := by
  have H := Lib.hid h
  have Hlen := Lib.hid h.len
  clear h
  obtain ⟨i0, hi, hz0, hz1, hz2⟩ := info_parts ans_info
  have HI := Lib.hid hi
  have HZ0 := Lib.hid hz0
  have HZ1 := Lib.hid hz1
  have HZ2 := Lib.hid hz2
  clear hi hz0 hz1 hz2
  go_enter Tryz.func111, Tryz.ntmps111
  go_wp2
  go_loopw [4, 5, 11] (fun v o i wr => ∃ k : Nat, k ≤ n ∧ i = .int .i64 k ∧ Mp wr v (runR (ops.take k)).1 o ∧ OwnA wr w.heap.size o (runR (ops.take k)).2 ∧ Below w.heap.size w wr) (fun _ _ i _ => n - (intOf i).toNat)
  case atStart => exact ⟨0, Nat.zero_le _, rfl, ⟨none, 0, 0, rfl, ⟨by simp [runR], Rd.none_⟩, fun h => absurd h (by omega)⟩, World.ownsRow_nil _ _ _ _, Below.refl _ _⟩
  case round =>
    obtain ⟨k, hk, rfl, ⟨A4, n4, c4, rfl, hps, hdis⟩, hown, hnx⟩ := hrel
    have hsz := hnx.size
    by_cases hlt : k < n
    · obtain ⟨b, off, rfl, hb, hc⟩ := H.out.at_ (by omega)
      have hkl : k < ops.length := by have := Hlen.out; omega
      have hc0 : wr.cell? ⟨b, off + k * 3, none⟩ = some (I ops[k].1) := (hnx.cell (by exact hb)).trans (hc k hlt).1
      have hc1 : wr.cell? ⟨b, off + k * 3 + 1, none⟩ = some (I ops[k].2.1) := (hnx.cell (by exact hb)).trans (hc k hlt).2.1
      have hc2 : wr.cell? ⟨b, off + k * 3 + 2, none⟩ = some (I ops[k].2.2) := (hnx.cell (by exact hb)).trans (hc k hlt).2.2
      have hrl : (runR (ops.take k)).2.length ≤ k := by rw [runR_len]; simp; omega
      have HRS := Lib.hid (runR_succ ops k hkl)
      have HCH := Lib.hid (chk_runR (ops.take k))
      have HPS := Lib.hid hps
      have HDIS := Lib.hid hdis
      have HOWN := Lib.hid hown
      have HNX := Lib.hid hnx
      clear hc hps hdis hown hnx
      go_wp2_with fail
      refine (Done_any A4 n4 c4 (runR (ops.take k)).1 ops[k].1 ops[k].2.1 ops[k].2.2 _ (HPS.out.below (w0_below wr _ _ _)) HCH.out).mono ?_
      rintro e w2 ⟨A6, n6, c6, rfl, hps6, hb6, hfr6⟩
      have hw0 := w0_size wr ops[k].1 ops[k].2.1 ops[k].2.2
      have hbr : Below wr.heap.size wr w2 := (w0_below wr ops[k].1 ops[k].2.1 ops[k].2.2).trans (hb6.mono (by omega))
      have hab : AB w2 (wr.heap.size + 1) := (w0_ab wr ops[k].1 ops[k].2.1 ops[k].2.2).below hb6 (by omega)
      obtain ⟨⟨a0, a1, a2, a3⟩, f0, f1, f2, f3⟩ := hab.facts
      have hz2 : wr.heap.size + 2 ≤ w2.heap.size := by have := hb6.size; omega
      obtain ⟨aa, haa⟩ : ∃ aa, doA (runR (ops.take k)).1 ops[k].1 ops[k].2.1 = aa := ⟨_, rfl⟩
      obtain ⟨LL, hLL⟩ : ∃ LL, doL (runR (ops.take k)).1 ops[k].1 ops[k].2.1 ops[k].2.2 = LL := ⟨_, rfl⟩
      have HRN : Hid (runR (ops.take (k + 1)) = (LL, (runR (ops.take k)).2 ++ [aa])) := by show _ = _; rw [HRS.out, stepR, haa, hLL]
      rw [haa]
      rw [hLL] at hps6
      have hnb : ∀ g, Value.ownBlock _ = some g → g < wr.heap.size := own_lt HOWN.out
      have HNB := Lib.hid hnb
      have hne : Value.ownBlock _ ≠ some (wr.heap.size + 1) := fun e => by have := HNB.out _ e; omega
      have HO2 := Lib.hid (own_st4 (own_below HOWN.out hbr) hne aa.e aa.k aa.v aa.b)
      have HFR : Hid ((A6 = A4 ∧ n6 = n4) ∨ ∀ ad, A6 = some ad → wr.heap.size + 2 ≤ ad.block) := by
        rcases hfr6 with h | h
        · exact .inl h
        · exact .inr (fun ad e => by have := h ad e; omega)
      have HP6 := Lib.hid hps6
      have HBR := Lib.hid hbr
      have HB2 := Lib.hid (below_next HNX.out hbr)
      have HAB := Lib.hid hab
      clear hps6 hb6 hfr6 hw0 hbr hab haa hLL hnb hne
      have HPF : Hid (0 < n6 → ∀ ad, A6 = some ad → ad.block ≠ wr.heap.size + 1 ∧ (Value.ownBlock _ ≠ some ad.block)) := fun h0 ad e => by
        rcases HFR.out with ⟨h, h6⟩ | h
        · rw [h] at e
          have h4 : 0 < n4 := by omega
          have := HPS.out.blk h4 ad e
          exact ⟨by omega, HDIS.out h4 ad e⟩
        · have := h ad e
          exact ⟨by omega, fun e' => by have := HNB.out _ e'; omega⟩
      have HP7 : Hid (PS (st4 w2 (wr.heap.size + 1) aa.e aa.k aa.v aa.b) A6 n6 c6 LL) := by
        rcases Nat.eq_zero_or_pos n6 with h6 | h6
        · subst h6
          exact ⟨HP6.out.len, Rd.none_⟩
        · exact HP6.out.st4 (fun ad e => (HPF.out h6 ad e).1) _ _ _ _
      have HB7 := Lib.hid (below_st4 HB2.out (show w.heap.size ≤ wr.heap.size + 1 by omega) aa.e aa.k aa.v aa.b)
      have HZ7 : Hid ((st4 w2 (wr.heap.size + 1) aa.e aa.k aa.v aa.b).heap.size = w2.heap.size) := by show _ = _; simp [World.setCell]
      have HNEWS : Hid (∀ (j : Nat) (u : Value), ([I aa.e, I aa.k, I aa.v, .bool aa.b] : List Value)[j]? = some u → ((st4 w2 (wr.heap.size + 1) aa.e aa.k aa.v aa.b).alloc (ansOf aa)).cell? ((⟨w2.heap.size, 0, none⟩ : Addr).add j) = some u) := by
        intro j u hu
        rw [addn]
        have hnew := heap_alloc_new (st4 w2 (wr.heap.size + 1) aa.e aa.k aa.v aa.b) (ansOf aa)
        rw [HZ7.out] at hnew
        rw [cell_of_row _ _ _ _ _ _ hnew]
        simpa using hu
      have HBASE : Hid (w.heap.size ≤ ((st4 w2 (wr.heap.size + 1) aa.e aa.k aa.v aa.b).alloc (ansOf aa)).heap.size) := by
        show _ ≤ _
        rw [World.size_alloc, HZ7.out]
        omega
      have HO3 := Lib.hid (World.ownsRow.alloc HO2.out (ansOf aa))
      go_wp2_with (at_builtin; refine wpList_append_own_at _ rfl (.tmp 21) (.tmp 23) 34 rfl w.heap.size 51 i0 _ 4 32 Tryz.underlying34 HI.out HZ0.out HZ1.out HZ2.out rfl (by decide) _ _ _ rfl HO3.out ⟨w2.heap.size, 0, none⟩ 1 1 [I aa.e, I aa.k, I aa.v, .bool aa.b] rfl rfl HNEWS.out (by intro u hu; simp at hu; rcases hu with rfl | rfl | rfl | rfl <;> rfl) (by unfold maxLen; omega) (by omega) HBASE.out ?_)
      intro v8 w8 hown8 hgrow8 _ hat8
      have hb8 : Below w.heap.size w w8 := (HB7.out.alloc HB7.out.size _).grown hgrow8 HBASE.out (own_ge HO2.out)
      have hp8 : PS w8 A6 n6 c6 LL := (HP7.out.alloc _).grown hgrow8 (fun h6 ad e => (HPF.out h6 ad e).2)
      have hd8 : 0 < n6 → ∀ ad, A6 = some ad → v8.ownBlock ≠ some ad.block := fun h6 ad e e' => by
        rcases hat8 with h | h
        · exact (HPF.out h6 ad e).2 (h ▸ e')
        · have h1 := HP6.out.blk h6 ad e
          rw [h] at e'
          have h2 := Option.some.inj e'
          omega
      have HO8 : Hid (OwnA w8 w.heap.size v8 (runR (ops.take (k + 1))).2) := by
        show w8.ownsRow _ _ _ _ _ _
        rw [HRN.out, List.length_append, flatA_append]
        exact hown8
      have HM8 : Hid (Mp w8 (.slice A6 n6 c6) (runR (ops.take (k + 1))).1 v8) := by
        rw [HRN.out]
        exact ⟨A6, n6, c6, rfl, hp8, hd8⟩
      have HB8 := Lib.hid hb8
      clear hown8 hgrow8 hat8 hb8 hp8 hd8 a0 a1 a2 a3 f0 f1 f2 f3
      go_wp2
      go_roundw
      case rel => exact ⟨k + 1, by omega, by go_num, HM8.out, HO8.out, HB8.out⟩
      case measure => simp [intOf]; omega
    · have htk : ops.take k = ops := List.take_of_length_le (by have := Hlen.out; omega)
      rw [htk] at hps hown
      obtain ⟨A', c', rfl, has⟩ := hown.as_
      have HPS := Lib.hid hps
      have HAS := Lib.hid has
      have HNX := Lib.hid hnx
      generalize (runR ops).2.length = m at *
      clear hps has hnx hown hdis htk
      go_wp2
      go_ret2
      exact ⟨_, _, _, _, _, _, rfl, HPS.out, HAS.out, HNX.out⟩

end Go.Proofs.YtpnjnedfcdppaaaGreatDoor

/-
  slices.Clone of ops.
-/
namespace Go.Proofs.YtpnjnedfcdppaaaGreatDoor
open Go.RowKit

set_option maxRecDepth 100000 in
set_option maxHeartbeats 1000000 in
theorem cloneO_any (A : Option Addr) (n c : Nat) (l : List OP) (w : World) (h : OS w A n c l) (hn : n * 24 ≤ 140737488355328) :
    Calls Tryz.prog 105 #[.slice A n c] w fun e w' => ∃ v, e = .returned v ∧ OwnO w' w.heap.size v l ∧ Below w.heap.size w w' := by
  have H := Lib.hid h
  have HL := Lib.hid h.len
  clear h
  have heq := fun w => Lib.run_eql_slice_nil (P := Tryz.prog) w 32 69 A n c 0 0 Tryz.underlying32
  obtain ⟨i0, hi, hz0, hz1, hz2⟩ := info_parts op_info
  have HI := Lib.hid hi
  have HZ0 := Lib.hid hz0
  have HZ1 := Lib.hid hz1
  have HZ2 := Lib.hid hz2
  clear hi hz0 hz1 hz2
  cases A with
  | none =>
    have hl : l = [] := by
      rcases Nat.eq_zero_or_pos n with h0 | h0
      · exact List.eq_nil_of_length_eq_zero (by rw [HL.out]; exact h0)
      · obtain ⟨b, off, e, _⟩ := H.out.rd.2 h0; cases e
    have HLN := Lib.hid hl
    clear hl
    go_enter Tryz.func105, Tryz.ntmps105
    go_wp2
    go_ret
    refine ⟨_, rfl, ?_, Below.refl _ _⟩
    rw [HLN.out]
    exact World.ownsRow_nil _ _ _ _
  | some ad =>
    have HF : Hid ((flatO l).length = n * 3) := by show _ = _; rw [flatO_length, HL.out]
    go_enter Tryz.func105, Tryz.ntmps105
    go_wp2_with (first
      | (at_builtin
         refine wpList_append_own_at _ rfl (.tmp 5) (.tmp 6) 32 rfl w.heap.size 69 i0 _ 3 24 Tryz.underlying32 HI.out HZ0.out HZ1.out HZ2.out rfl (by omega) (.slice (some ⟨w.heap.size, 0, none⟩) 0 0) 0 [] rfl (World.ownsRow_made w _ 0 (Nat.le_refl _) (by unfold maxLen; omega) (by simp)) ad n c (flatO l) rfl HF.out ((H.out.below ((Below.refl _ _).alloc (Nat.le_refl _) _)).cells rfl) (flatO_one l) (by unfold maxLen; omega) (by omega) (by simp) ?_
         intro v2 w2 hown2 hgrow2 _ hat2)
      | fail)
    go_ret
    refine ⟨v2, rfl, ?_, Below.grown ((Below.refl _ _).alloc (Nat.le_refl _) _) hgrow2 (by simp) (by simp [Value.ownBlock])⟩
    unfold OwnO
    rw [HL.out]
    simpa using hown2

end Go.Proofs.YtpnjnedfcdppaaaGreatDoor
