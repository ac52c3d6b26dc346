/-
  package hands: what a hand reads: key, kind.
-/
import Derived.Test.YtfmdpmebllepeaaProg
import Derived.Test.YtfmdpmebllepeaaJMem
import Derived.BigQuiet
import Derived.LaidEqlPtr
namespace Go.Proofs.Ytfmdpmebllepeaa
open Go.RowKit

theorem node_size : (Try.prog.info? 86).map (fun i => i.size) = some 4 := by kernel_rfl
theorem node_info : ∃ i, Try.prog.info? 86 = some i ∧ i.size ≠ 0 := by
  have h := node_size
  cases hi : Try.prog.info? 86 with
  | none => rw [hi] at h; cases h
  | some i => rw [hi] at h; simp at h; exact ⟨i, rfl, by omega⟩
section
variable {base B nh v : Nat} {kd K : Int} {ad : Nat → Nat} {s : Bs} {lk : Nat → Bool} {hs : Nat → Nat → Value} {hm : Nat → Value} {w : World}
set_option maxRecDepth 100000 in
set_option maxHeartbeats 2000000 in
theorem key_any (h : ST base B nh v kd K ad s lk hs hm w) : Calls Try.prog 48 #[.pointer (some ⟨B, v * 9, none⟩)] w fun e w' => e = .returned (I K) ∧ ∃ m, w' = w.drewN m := by
  obtain ⟨b, off, n, c, DA, j, dc, e1, e2, hj, hn, hb, d0, d1⟩ := h.jd
  have c1 := h.hand (i := 1) (by omega)
  have c2 := h.hand (i := 2) (by omega)
  rw [e1] at c1
  rw [e2] at c2
  have hw : IntKind.i64.wrap (j : Int) = j := IntWalk.i64_in _ (by omega)
  clear h e1 e2 d0 hb
  go_enter Try.func48, Try.ntmps48
  go_wp2
  go_quiet (fail)
  go_wp2
  go_ret
  exact ⟨rfl, _, rfl⟩
set_option maxRecDepth 100000 in
set_option maxHeartbeats 2000000 in
theorem kind_any (h : ST base B nh v kd K ad s lk hs hm w) : Calls Try.prog 51 #[.pointer (some ⟨B, v * 9, none⟩)] w fun e w' => e = .returned (I kd) ∧ ∃ m, w' = w.drewN m := by
  obtain ⟨b, off, n, c, DA, j, dc, e1, e2, hj, hn, hb, d0, d1⟩ := h.jd
  have c1 := h.hand (i := 1) (by omega)
  have c2 := h.hand (i := 2) (by omega)
  rw [e1] at c1
  rw [e2] at c2
  have hw : IntKind.i64.wrap (j : Int) = j := IntWalk.i64_in _ (by omega)
  clear h e1 e2 d1 hb
  go_enter Try.func51, Try.ntmps51
  go_wp2
  go_quiet (fail)
  go_wp2
  go_ret
  exact ⟨rfl, _, rfl⟩
set_option maxRecDepth 100000 in
set_option maxHeartbeats 2000000 in
theorem found_any (h : ST base B nh v kd K ad s lk hs hm w) {c : Nat} (hc : c < s.sz) (h6 : hm 6 = jp (ad c)) {b : Bool} (hb : decide (s.key c = K) = b) : Calls Try.prog 50 #[.pointer (some ⟨B, v * 9, none⟩)] w fun e w' => e = .returned (.bool b) ∧ ∃ m, w' = w.drewN m := by
  have HK : Hid (∀ m, Calls Try.prog 48 #[.pointer (some ⟨B, v * 9, none⟩)] (w.drewN m) fun e w' => e = .returned (I K) ∧ ∃ m', w' = (w.drewN m).drewN m') := fun m => key_any (h.drewN m)
  have c6 := h.hand (i := 6) (by omega)
  rw [h6] at c6
  obtain ⟨b0, -, -, -⟩ := h.bead hc
  generalize s.key c = x at *
  subst hb
  clear h h6 hc
  go_enter Try.func50, Try.ntmps50
  go_wp2
  go_quiet ((go_at_call 48; with_reducible exact Calls.quiet_of (HK.out _)))
  go_wp2
  go_ret
  exact ⟨by first | rfl | simp, _, rfl⟩
set_option maxRecDepth 100000 in
set_option maxHeartbeats 2000000 in
theorem has_any (h : ST base B nh v kd K ad s lk hs hm w) {c : Nat} (hc : c < s.sz) (h6 : hm 6 = jp (ad c)) {b : Bool} (hb : (decide (s.key c = K) && !s.mrk c) = b) : Calls Try.prog 58 #[.pointer (some ⟨B, v * 9, none⟩)] w fun e w' => e = .returned (.bool b) ∧ ∃ m, w' = w.drewN m := by
  have c6 := h.hand (i := 6) (by omega)
  rw [h6] at c6
  obtain ⟨-, -, b2, -⟩ := h.bead hc
  cases hd : decide (s.key c = K) with
  | true =>
    have HF := Lib.hid (found_any h hc h6 hd)
    rw [hd] at hb
    generalize s.mrk c = mm at *
    subst hb
    clear h h6 hc hd
    go_enter Try.func58, Try.ntmps58
    go_wp2_with fail
    refine HF.out.mono ?_
    rintro e w1 ⟨rfl, m, rfl⟩
    go_wp2
    go_ret
    exact ⟨by first | rfl | simp, _, rfl⟩
  | false =>
    have HF := Lib.hid (found_any h hc h6 hd)
    rw [hd] at hb
    generalize s.mrk c = mm at *
    subst hb
    clear h h6 hc hd
    go_enter Try.func58, Try.ntmps58
    go_wp2_with fail
    refine HF.out.mono ?_
    rintro e w1 ⟨rfl, m, rfl⟩
    go_wp2
    go_ret
    exact ⟨by first | rfl | simp, _, rfl⟩
set_option maxRecDepth 100000 in
set_option maxHeartbeats 2000000 in
theorem stands_f (h : ST base B nh v kd K ad s lk hs hm w) {p : Nat} (hp : p < s.sz) (h5 : hm 5 = jp (ad p)) (hm : s.mrk p = true) : Calls Try.prog 61 #[.pointer (some ⟨B, v * 9, none⟩)] w fun e w' => e = .returned (.bool false) ∧ ∃ m, w' = w.drewN m := by
  have c5 := h.hand (i := 5) (by omega)
  rw [h5] at c5
  obtain ⟨-, -, b2, -⟩ := h.bead hp
  rw [hm] at b2
  clear h h5 hp hm
  go_enter Try.func61, Try.ntmps61
  go_wp2
  go_quiet (fail)
  go_wp2
  go_ret
  exact ⟨by first | rfl | simp, _, rfl⟩
set_option maxRecDepth 100000 in
set_option maxHeartbeats 2000000 in
theorem stands_m (h : ST base B nh v kd K ad s lk hs hm w) {p c : Nat} (hp : p < s.sz) (hpt : p ≠ s.tl) (hn : s.nx p < s.sz) (hc : c < s.sz) (h5 : hm 5 = jp (ad p)) (h6 : hm 6 = jp (ad c)) (hm : s.mrk p = false) {b : Bool} (hb : decide (s.nx p = c) = b) : Calls Try.prog 61 #[.pointer (some ⟨B, v * 9, none⟩)] w fun e w' => e = .returned (.bool b) ∧ ∃ m, w' = w.drewN m := by
  have c5 := h.hand (i := 5) (by omega)
  have c6 := h.hand (i := 6) (by omega)
  rw [h5] at c5
  rw [h6] at c6
  obtain ⟨-, b1, b2, -⟩ := h.bead hp
  rw [hm] at b2
  rw [jnx_ne hpt] at b1
  have hq : ∀ m, (binOp .eql 70 (jp (ad (s.nx p))) (jp (ad c))).run Try.prog (w.drewN m) = .ok (.bool b) (w.drewN m) := by
    intro m
    obtain ⟨i0, hi0, hz0⟩ := node_info
    by_cases e : s.nx p = c
    · have : b = true := by rw [← hb]; simp [e]
      rw [e, this]
      exact run_eql_ptr_same (te := 86) (w.drewN m) ⟨ad c, 0, none⟩ (by kernel_rfl) hi0
    · have : b = false := by rw [← hb]; simp [e]
      rw [this]
      exact run_eql_ptr_other (te := 86) (w.drewN m) (by kernel_rfl) hi0 hz0 (fun e2 => e (h.js.l.inj _ _ hn hc (by injection e2))) (h.js.l.bd _ hn) (h.js.l.bd _ hc)
  generalize ad (s.nx p) = x at *
  generalize ad c = y at *
  clear h h5 h6 hp hm hb
  go_enter Try.func61, Try.ntmps61
  go_wp2
  go_quiet (fail)
  go_wp2
  go_ret
  exact ⟨by first | rfl | simp, _, rfl⟩
end

end Go.Proofs.Ytfmdpmebllepeaa
