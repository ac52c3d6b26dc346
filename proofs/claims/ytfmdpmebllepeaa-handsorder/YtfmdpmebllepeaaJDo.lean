/-
  package hands: what a hand does in one step: to, take, free, end, add, unlink.
-/
import Derived.Test.YtfmdpmebllepeaaJRead
import Derived.BigRegion
import Derived.Deep.RegionWith
import Derived.Laws.EntriesVeiled
namespace Go.Proofs.Ytfmdpmebllepeaa
open Go.RowKit

section
variable {base B nh v : Nat} {kd K : Int} {ad : Nat → Nat} {s : Bs} {lk : Nat → Bool} {hs : Nat → Nat → Value} {hm : Nat → Value} {w : World}
/-- behind a step -/
def RetJ (base B nh v : Nat) (kd K : Int) (ad : Nat → Nat) (s : Bs) (lk : Nat → Bool) (hs : Nat → Nat → Value) (hm : Nat → Value) (w : World) (e : Ending) (w' : World) : Prop := e = .returned (.tuple #[]) ∧ ST base B nh v kd K ad s lk hs hm w' ∧ JP base w w'
set_option maxRecDepth 100000 in
set_option maxHeartbeats 2000000 in
theorem to_any (h : ST base B nh v kd K ad s lk hs hm w) {x : Nat} (hx : x < s.sz) (hxt : x ≠ s.tl) : Calls Try.prog 45 #[.pointer (some ⟨B, v * 9, none⟩), jp (ad x)] w
    (RetJ base B nh v kd K ad s lk hs (upd (upd hm 5 (jp (ad x))) 6 (jp (ad (s.nx x)))) w) := by
  have H := Lib.hid h
  have c5 := h.hand (i := 5) (by omega)
  have c6 := h.hand (i := 6) (by omega)
  have f5 := h.hfroz (v * 9 + 5)
  have f6 := h.hfroz (v * 9 + 6)
  obtain ⟨-, b1, -, -⟩ := h.bead hx
  rw [jnx_ne hxt] at b1
  clear h
  go_enter Try.func45, Try.ntmps45
  go_wp2
  go_end0
  have h1 := H.out.fld (i := 5) (by omega) (by omega) (jp (ad x))
  have h2 := h1.fld (i := 6) (by omega) (by omega) (jp (ad (s.nx x)))
  refine ⟨rfl, ?_, (H.out.js.jp_fld _ _).trans (h1.js.jp_fld _ _)⟩
  exact h2
set_option maxRecDepth 100000 in
set_option maxHeartbeats 2000000 in
theorem take_t (h : ST base B nh v kd K ad s lk hs hm w) {x : Nat} (hx : x < s.sz) (hl : lk x = false) : Calls Try.prog 44 #[jp (ad x)] w fun e w' =>
    e = .returned (.bool true) ∧ ST base B nh v kd K ad s (upd lk x true) hs hm w' ∧ JP base w w' := by
  have H := Lib.hid h
  have f3 := h.bfroz hx 3
  obtain ⟨-, -, -, b3⟩ := h.bead hx
  rw [hl] at b3
  clear h hl
  go_enter Try.func44, Try.ntmps44
  go_wp2
  go_ret
  exact ⟨rfl, H.out.lock hx true, H.out.js.jp_node hx _ _⟩
set_option maxRecDepth 100000 in
set_option maxHeartbeats 2000000 in
theorem take_f (h : ST base B nh v kd K ad s lk hs hm w) {x : Nat} (hx : x < s.sz) (hl : lk x = true) : Calls Try.prog 44 #[jp (ad x)] w fun e w' =>
    e = .returned (.bool false) ∧ w' = w := by
  obtain ⟨-, -, -, b3⟩ := h.bead hx
  rw [hl] at b3
  clear h hl
  go_enter Try.func44, Try.ntmps44
  go_wp2
  go_ret
  exact ⟨rfl, rfl⟩
set_option maxRecDepth 100000 in
set_option maxHeartbeats 2000000 in
theorem nfree_any (h : ST base B nh v kd K ad s lk hs hm w) {x : Nat} (hx : x < s.sz) : Calls Try.prog 49 #[jp (ad x)] w (RetJ base B nh v kd K ad s (upd lk x false) hs hm w) := by
  have H := Lib.hid h
  have f3 := h.bfroz hx 3
  obtain ⟨-, -, -, b3⟩ := h.bead hx
  clear h
  go_enter Try.func49, Try.ntmps49
  go_wp2
  go_end0
  exact ⟨rfl, H.out.lock hx false, H.out.js.jp_node hx _ _⟩
set_option maxRecDepth 100000 in
set_option maxHeartbeats 2000000 in
theorem free_any (h : ST base B nh v kd K ad s lk hs hm w) {p c : Nat} (hp : p < s.sz) (hc : c < s.sz) (h5 : hm 5 = jp (ad p)) (h6 : hm 6 = jp (ad c)) : Calls Try.prog 54 #[.pointer (some ⟨B, v * 9, none⟩)] w (RetJ base B nh v kd K ad s (upd (upd lk p false) c false) hs hm w) := by
  have H := Lib.hid h
  have c5 := h.hand (i := 5) (by omega)
  rw [h5] at c5
  have HF := Lib.hid (nfree_any h hp)
  have H6 := Lib.hid h6
  clear h h5 h6
  go_enter Try.func54, Try.ntmps54
  go_wp2_with fail
  refine HF.out.mono ?_
  rintro e w1 ⟨rfl, h1, hp1⟩
  have c6 := h1.hand (i := 6) (by omega)
  rw [H6.out] at c6
  have HF1 := Lib.hid (nfree_any h1 hc)
  have HP1 := Lib.hid hp1
  clear h1 hp1
  go_wp2_with fail
  refine HF1.out.mono ?_
  rintro e w2 ⟨rfl, h2, hp2⟩
  have H2 := Lib.hid h2
  have HP2 := Lib.hid hp2
  clear h2 hp2
  go_wp2
  go_end0
  exact ⟨rfl, H2.out, HP1.out.trans HP2.out⟩
set_option maxRecDepth 100000 in
set_option maxHeartbeats 2000000 in
theorem end_any (h : ST base B nh v kd K ad s lk hs hm w) (b : Bool) : Calls Try.prog 55 #[.pointer (some ⟨B, v * 9, none⟩), .bool b] w (RetJ base B nh v kd K ad s lk hs (upd (upd hm 7 .nilFunc) 8 (.bool b)) w) := by
  have H := Lib.hid h
  have c7 := h.hand (i := 7) (by omega)
  have c8 := h.hand (i := 8) (by omega)
  have f7 := h.hfroz (v * 9 + 7)
  have f8 := h.hfroz (v * 9 + 8)
  clear h
  go_enter Try.func55, Try.ntmps55
  go_wp2
  go_end0
  have h1 := H.out.fld (i := 7) (by omega) (by omega) .nilFunc
  have h2 := h1.fld (i := 8) (by omega) (by omega) (.bool b)
  refine ⟨rfl, ?_, (H.out.js.jp_fld _ _).trans (h1.js.jp_fld _ _)⟩
  exact h2
set_option maxRecDepth 100000 in
set_option maxHeartbeats 4000000 in
theorem unlink_any (h : ST base B nh v kd K ad s lk hs hm w) {p c : Nat} (hp : p < s.sz) (hpt : p ≠ s.tl) (hc : c < s.sz) (hct : c ≠ s.tl) (h5 : hm 5 = jp (ad p)) (h6 : hm 6 = jp (ad c)) : Calls Try.prog 53 #[.pointer (some ⟨B, v * 9, none⟩)] w (RetJ base B nh v kd K ad (s.cut p c) lk hs hm w) := by
  have H := Lib.hid h
  have c5 := h.hand (i := 5) (by omega)
  have c6 := h.hand (i := 6) (by omega)
  rw [h5] at c5
  rw [h6] at c6
  have f1 := h.bfroz hp 1
  obtain ⟨-, p1, -, -⟩ := h.bead hp
  obtain ⟨-, b1, -, -⟩ := h.bead hc
  rw [jnx_ne hct] at b1
  clear h h5 h6
  go_enter Try.func53, Try.ntmps53
  go_region
  all_goals
    (go_wp2
     go_end0
     exact ⟨rfl, ST.cut (H.out.drewN 1) hp hpt, ((JP.refl _ _).drewN 1).trans ((H.out.drewN 1).js.jp_node hp _ _)⟩)
set_option maxRecDepth 100000 in
set_option maxHeartbeats 4000000 in
theorem add_any (h : ST base B nh v kd K ad s lk hs hm w) {p c : Nat} (hp : p < s.sz) (hpt : p ≠ s.tl) (hc : c < s.sz) (htl : s.tl < s.sz) (hnl : ∀ i, i < s.sz → i ≠ s.tl → s.nx i < s.sz) (hlk : lk s.sz = false) (h5 : hm 5 = jp (ad p)) (h6 : hm 6 = jp (ad c)) : Calls Try.prog 52 #[.pointer (some ⟨B, v * 9, none⟩)] w
    fun e w' => ∃ g, RetJ base B nh v kd K (upd ad s.sz g) (s.insc p c K) lk hs hm w e w' := by
  have H := Lib.hid h
  have HK : Hid (∀ m, Calls Try.prog 48 #[.pointer (some ⟨B, v * 9, none⟩)] (w.drewN m) fun e w' => e = .returned (I K) ∧ ∃ m', w' = (w.drewN m).drewN m') := fun m => key_any (h.drewN m)
  have c5 := h.hand (i := 5) (by omega)
  have c6 := h.hand (i := 6) (by omega)
  rw [h5] at c5
  rw [h6] at c6
  have f1 := h.bfroz hp 1
  obtain ⟨-, p1, -, -⟩ := h.bead hp
  have hlt := h.js.l.lt hp
  have HLK := Lib.hid hlk
  have HNL := Lib.hid hnl
  have p1a : ∀ (m : Nat) (o : Obj), ((w.drewN m).alloc o).cell? ⟨ad p, 1, none⟩ = some (jnx s ad p) := fun m o => (((H.out.drewN m).alloc o).bead hp).2.1
  have p1b : ∀ (m m' : Nat) (o : Obj), (((w.drewN m).drewN m').alloc o).cell? ⟨ad p, 1, none⟩ = some (jnx s ad p) := fun m m' o => ((((H.out.drewN m).drewN m').alloc o).bead hp).2.1
  have c5a : ∀ (m : Nat) (o : Obj), ((w.drewN m).alloc o).cell? ⟨B, v * 9 + 5, none⟩ = some (jp (ad p)) := fun m o => by rw [← h5]; exact ((H.out.drewN m).alloc o).hand (by omega)
  have c5b : ∀ (m m' : Nat) (o : Obj), (((w.drewN m).drewN m').alloc o).cell? ⟨B, v * 9 + 5, none⟩ = some (jp (ad p)) := fun m m' o => by rw [← h5]; exact (((H.out.drewN m).drewN m').alloc o).hand (by omega)
  have f1a : ∀ (m : Nat) (o : Obj), ((w.drewN m).alloc o).frozen? ⟨ad p, 1, none⟩ = false := fun m o => ((H.out.drewN m).alloc o).bfroz hp 1
  have f1b : ∀ (m m' : Nat) (o : Obj), (((w.drewN m).drewN m').alloc o).frozen? ⟨ad p, 1, none⟩ = false := fun m m' o => (((H.out.drewN m).drewN m').alloc o).bfroz hp 1
  clear h h5 h6 hlk hnl
  go_enter Try.func52, Try.ntmps52
  go_region_with (first
    | (go_at_call 48
       refine (HK.out 1).mono ?_
       rintro e w1 ⟨rfl, m1, rfl⟩))
  all_goals
    (go_wp2
     go_end0
     have h1 := (H.out.drewN (1 + m1)).insert (K' := K) hp hpt hc htl HNL.out HLK.out
     exact ⟨w.heap.size, rfl, h1.1, ((JP.refl _ _).drewN (1 + m1)).trans h1.2⟩)
end

end Go.Proofs.Ytfmdpmebllepeaa
