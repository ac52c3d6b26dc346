/-
  Do where nothing changes; Do whole.
-/
import Derived.Test.YtolfpjleckckiaaDoAll
namespace Go.Proofs.Ytolfpjleckckiaa
open Go.RowKit

set_option maxRecDepth 100000 in
set_option maxHeartbeats 1000000 in
theorem Do_look (A : Option Addr) (n c : Nat) (l : PL) (kind key val : Int) (w : World) (h : PS w A n c l) (hc : chk l = 0) (ho : opB kind key = true) (h1 : kind ≠ 1) (h3 : kind ≠ 3) :
    Calls Try.prog 28 #[.slice A n c, .agg #[I kind, I key, I val]] w (RetPA (doL l kind key val) (doA l kind key) w) := by
  have hn : n ≤ 200 := by have := chk_len hc; rw [h.len] at this; exact this
  have H := Lib.hid h
  clear h
  have HF : Hid (doL l kind key val = l ∧ doA l kind key = lookA l kind key) := by show _ ∧ _; simp [doL, doA, hc, ho, h1, h3]
  have HE := Lib.hid hc
  have HO := Lib.hid ho
  clear hc ho
  go_enter Try.func28, Try.ntmps28
  go_wp2_with fail
  refine (Check_is A n c l _ (H.out.below (w0_below w kind key val)) (by omega) 0 HE.out).mono ?_
  rintro e w2 ⟨rfl, hb⟩
  have hsz := w0_size w kind key val
  have hab : AB w2 (w.heap.size + 1) := (w0_ab w kind key val).below hb (by omega)
  have hob : OB w2 w.heap.size kind key val := (w0_ob w kind key val).below hb (by omega)
  have hbw : Below w.heap.size w w2 := (w0_below w kind key val).trans (hb.mono (by omega))
  obtain ⟨o0, o1, o2⟩ := hob.facts
  have HSZ : Hid (w.heap.size + 2 ≤ w2.heap.size) := by have := hb.size; show _ ≤ _; omega
  have HAB := Lib.hid hab
  have HOB := Lib.hid hob
  have HB2 := Lib.hid hbw
  clear hb hab hsz hob hbw
  go_wp2_with fail
  refine (isOp_t kind key val _ HO.out).mono ?_
  rintro e w3 ⟨rfl, hb⟩
  have hab : AB w3 (w.heap.size + 1) := HAB.out.below hb (by have := HSZ.out; omega)
  have hob : OB w3 w.heap.size kind key val := HOB.out.below hb (by have := HSZ.out; omega)
  have hbw : Below w.heap.size w w3 := HB2.out.trans (hb.mono (by have := HSZ.out; omega))
  have HSZ3 : Hid (w.heap.size + 2 ≤ w3.heap.size) := by have := hb.size; have := HSZ.out; show _ ≤ _; omega
  have HAB3 := Lib.hid hab
  have HOB3 := Lib.hid hob
  have HB3 := Lib.hid hbw
  clear o0 o1 o2
  obtain ⟨o0, o1, o2⟩ := hob.facts
  clear hb hab hob hbw
  have g1 : (kind == 1) = false := beq_eq_false_iff_ne.2 h1
  have g3 : (kind == 3) = false := beq_eq_false_iff_ne.2 h3
  have hk : (0 ≤ key ∧ key ≤ 1000000) ∨ (kind = 6 ∨ kind = 7) := by
    have := HO.out
    unfold opB at this
    split at this
    · left; simpa [keyB] using this
    · right; simpa using this
  have HK := Lib.hid hk
  clear h1 h3 hk
  go_wp2
  have hs0 : PS w3.drew A n c l := (H.out.below HB3.out).drew
  have HS0 := Lib.hid hs0
  clear hs0
  go_region_with
    (first
      | (go_at_call 38
         refine (copyOf_any _ n c l _ HS0.out (by omega)).mono ?_
         rintro e w4 ⟨rfl, hpb, hb⟩
         have hab4 : AB w4 (w.heap.size + 1) := AB.below (w := w3.drew) HAB3.out hb (by have := HSZ3.out; show w.heap.size + 1 < w3.heap.size; omega)
         have hob4 : OB w4 w.heap.size kind key val := OB.below (w := w3.drew) HOB3.out hb (by have := HSZ3.out; show w.heap.size < w3.heap.size; omega)
         have hbw4 : Below w.heap.size w w4 := HB3.out.drew.trans (hb.mono (by have := HSZ3.out; show w.heap.size ≤ w3.heap.size; omega))
         obtain ⟨q0, q1, q2⟩ := hob4.facts
         have HP4 := Lib.hid hpb
         have HAB4 := Lib.hid hab4
         have HB4 := Lib.hid hbw4
         have HSZ4 : Hid (w3.heap.size < w4.heap.size) := hpb.lt
         have HOB4 := Lib.hid hob4
         clear hab4 hob4 hbw4 hpb hb)
      | (go_at_call 41
         refine (look_any _ n c l kind key val _ (H.out.below HB4.out) hn HK.out).mono ?_
         rintro e w5 ⟨rfl, hb⟩
         have hab5 : AB w5 (w.heap.size + 1) := HAB4.out.below hb (by have := HSZ3.out; have := HSZ4.out; omega)
         have hp5 : PB w5 w3.heap.size 68 l := HP4.out.below hb HSZ4.out
         have hbw5 : Below w.heap.size w w5 := HB4.out.trans (hb.mono (by have := HSZ3.out; have := HSZ4.out; omega))
         obtain ⟨⟨a0, a1, a2, a3⟩, f0, f1, f2, f3⟩ := hab5.facts
         have HOB5 := Lib.hid (HOB4.out.below hb (by have := HSZ3.out; have := HSZ4.out; omega))
         obtain ⟨r0, r1, r2⟩ := HOB5.out.facts
         have HP5 := Lib.hid hp5
         have HB5 := Lib.hid hbw5
         clear hab5 hbw5 hp5 hb))
  all_goals
    go_wp2
    refine bodyPost_ret (v := .tuple #[.slice (some ⟨w3.heap.size, 0, none⟩) n n, anV (lookA l kind key)]) (by simp [results, Try.results28, go_sem, a0, a1, a2, a3]) rfl ?_
    have hp := (HP5.out.st4 (g' := w.heap.size + 1) (by have := HSZ3.out; omega) (lookA l kind key).e (lookA l kind key).k (lookA l kind key).v (lookA l kind key).b).ps (c := n) (by rw [H.out.len]; exact Nat.le_refl _)
    rw [H.out.len] at hp
    rw [HF.out.1]
    exact retPA_mk hp (below_st4 HB5.out (by simp) _ _ _ _) HF.out.2 (fun ad h => by cases h; have := HSZ3.out; show w.heap.size ≤ w3.heap.size; omega)

theorem Do_any (A : Option Addr) (n c : Nat) (l : PL) (kind key val : Int) (w : World) (h : PS w A n c l) (hn : n ≤ 9223372036854775807) :
    Calls Try.prog 28 #[.slice A n c, .agg #[I kind, I key, I val]] w (RetPA (doL l kind key val) (doA l kind key) w) := by
  by_cases hc : chk l = 0
  · cases ho : opB kind key with
    | false => exact Do_noop A n c l kind key val w h hc ho
    | true =>
      by_cases h1 : kind = 1
      · subst h1; exact Do_put A n c l key val w h hc ho
      · by_cases h3 : kind = 3
        · subst h3; exact Do_cut A n c l key val w h hc ho
        · exact Do_look A n c l kind key val w h hc ho h1 h3
  · exact Do_bad A n c l kind key val w h hn hc

end Go.Proofs.Ytolfpjleckckiaa
