/-
  Joined texts: YtfmdpmebllepeaaJDo, YtfmdpmebllepeaaJEnv, YtfmdpmebllepeaaJBegin, YtfmdpmebllepeaaJRetC.
-/
import Derived.Test.YtfmdpmebllepeaaJRead
import Derived.BigRegion
import Derived.Deep.RegionWith
import Derived.Laws.EntriesVeiled
/-
  package hands: what a hand does in one step: to, take, free, end, add, unlink.
-/
namespace Go.Proofs.Ytfmdpmebllepeaa
open Go.RowKit

section
variable {base B nh v : Nat} {kd K : Int} {ad : Nat → Nat} {s : Bs} {lk : Nat → Bool} {hs : Nat → Nat → Value} {hm : Nat → Value} {w : World}
def RetJ (base B nh v : Nat) (kd K : Int) (ad : Nat → Nat) (s : Bs) (lk : Nat → Bool) (hs : Nat → Nat → Value) (hm : Nat → Value) (w : World) (e : Ending) (w' : World) : Prop := e = .returned (.tuple #[]) ∧ ST base B nh v kd K ad s lk hs hm w' ∧ JP base w w'
set_option maxRecDepth 100000 in
set_option maxHeartbeats 2000000 in
theorem to_any (h : ST base B nh v kd K ad s lk hs hm w) {x : Nat} (hx : x < s.sz) (hxt : x ≠ s.tl) : Calls Try.prog 45 #[.pointer (some ⟨B, v * 9, none⟩), jp (ad x)] w
    (RetJ base B nh v kd K ad s lk hs (upd (upd hm 5 (jp (ad x))) 6 (jp (ad (s.nx x)))) w) := by
  have H := Lib.hid h
  have c5 := h.hand (i := 5) (by omega)
  have c6 := h.hand (i := 6) (by omega)
  have f5 := h.hfroz (v * 9 + 5)
  have f6 := h.hfroz (v * 9 + 6)
  obtain ⟨-, b1, -, -⟩ := h.bead hx
  rw [jnx_ne hxt] at b1
  clear h
  go_enter Try.func45, Try.ntmps45
  go_wp2
  go_end0
  have h1 := H.out.fld (i := 5) (by omega) (by omega) (jp (ad x))
  have h2 := h1.fld (i := 6) (by omega) (by omega) (jp (ad (s.nx x)))
  refine ⟨rfl, ?_, (H.out.js.jp_fld _ _).trans (h1.js.jp_fld _ _)⟩
  exact h2
set_option maxRecDepth 100000 in
set_option maxHeartbeats 2000000 in
theorem take_t (h : ST base B nh v kd K ad s lk hs hm w) {x : Nat} (hx : x < s.sz) (hl : lk x = false) : Calls Try.prog 44 #[jp (ad x)] w fun e w' =>
    e = .returned (.bool true) ∧ ST base B nh v kd K ad s (upd lk x true) hs hm w' ∧ JP base w w' := by
  have H := Lib.hid h
  have f3 := h.bfroz hx 3
  obtain ⟨-, -, -, b3⟩ := h.bead hx
  rw [hl] at b3
  clear h hl
  go_enter Try.func44, Try.ntmps44
  go_wp2
  go_ret
  exact ⟨rfl, H.out.lock hx true, H.out.js.jp_node hx _ _⟩
set_option maxRecDepth 100000 in
set_option maxHeartbeats 2000000 in
theorem take_f (h : ST base B nh v kd K ad s lk hs hm w) {x : Nat} (hx : x < s.sz) (hl : lk x = true) : Calls Try.prog 44 #[jp (ad x)] w fun e w' =>
    e = .returned (.bool false) ∧ w' = w := by
  obtain ⟨-, -, -, b3⟩ := h.bead hx
  rw [hl] at b3
  clear h hl
  go_enter Try.func44, Try.ntmps44
  go_wp2
  go_ret
  exact ⟨rfl, rfl⟩
set_option maxRecDepth 100000 in
set_option maxHeartbeats 2000000 in
theorem nfree_any (h : ST base B nh v kd K ad s lk hs hm w) {x : Nat} (hx : x < s.sz) : Calls Try.prog 49 #[jp (ad x)] w (RetJ base B nh v kd K ad s (upd lk x false) hs hm w) := by
  have H := Lib.hid h
  have f3 := h.bfroz hx 3
  obtain ⟨-, -, -, b3⟩ := h.bead hx
  clear h
  go_enter Try.func49, Try.ntmps49
  go_wp2
  go_end0
  exact ⟨rfl, H.out.lock hx false, H.out.js.jp_node hx _ _⟩
set_option maxRecDepth 100000 in
set_option maxHeartbeats 2000000 in
theorem free_any (h : ST base B nh v kd K ad s lk hs hm w) {p c : Nat} (hp : p < s.sz) (hc : c < s.sz) (h5 : hm 5 = jp (ad p)) (h6 : hm 6 = jp (ad c)) : Calls Try.prog 54 #[.pointer (some ⟨B, v * 9, none⟩)] w (RetJ base B nh v kd K ad s (upd (upd lk p false) c false) hs hm w) := by
  have H := Lib.hid h
  have c5 := h.hand (i := 5) (by omega)
  rw [h5] at c5
  have HF := Lib.hid (nfree_any h hp)
  have H6 := Lib.hid h6
  clear h h5 h6
  go_enter Try.func54, Try.ntmps54
  go_wp2_with fail
  refine HF.out.mono ?_
  rintro e w1 ⟨rfl, h1, hp1⟩
  have c6 := h1.hand (i := 6) (by omega)
  rw [H6.out] at c6
  have HF1 := Lib.hid (nfree_any h1 hc)
  have HP1 := Lib.hid hp1
  clear h1 hp1
  go_wp2_with fail
  refine HF1.out.mono ?_
  rintro e w2 ⟨rfl, h2, hp2⟩
  have H2 := Lib.hid h2
  have HP2 := Lib.hid hp2
  clear h2 hp2
  go_wp2
  go_end0
  exact ⟨rfl, H2.out, HP1.out.trans HP2.out⟩
set_option maxRecDepth 100000 in
set_option maxHeartbeats 2000000 in
theorem end_any (h : ST base B nh v kd K ad s lk hs hm w) (b : Bool) : Calls Try.prog 55 #[.pointer (some ⟨B, v * 9, none⟩), .bool b] w (RetJ base B nh v kd K ad s lk hs (upd (upd hm 7 .nilFunc) 8 (.bool b)) w) := by
  have H := Lib.hid h
  have c7 := h.hand (i := 7) (by omega)
  have c8 := h.hand (i := 8) (by omega)
  have f7 := h.hfroz (v * 9 + 7)
  have f8 := h.hfroz (v * 9 + 8)
  clear h
  go_enter Try.func55, Try.ntmps55
  go_wp2
  go_end0
  have h1 := H.out.fld (i := 7) (by omega) (by omega) .nilFunc
  have h2 := h1.fld (i := 8) (by omega) (by omega) (.bool b)
  refine ⟨rfl, ?_, (H.out.js.jp_fld _ _).trans (h1.js.jp_fld _ _)⟩
  exact h2
set_option maxRecDepth 100000 in
set_option maxHeartbeats 4000000 in
theorem unlink_any (h : ST base B nh v kd K ad s lk hs hm w) {p c : Nat} (hp : p < s.sz) (hpt : p ≠ s.tl) (hc : c < s.sz) (hct : c ≠ s.tl) (h5 : hm 5 = jp (ad p)) (h6 : hm 6 = jp (ad c)) : Calls Try.prog 53 #[.pointer (some ⟨B, v * 9, none⟩)] w (RetJ base B nh v kd K ad (s.cut p c) lk hs hm w) := by
  have H := Lib.hid h
  have c5 := h.hand (i := 5) (by omega)
  have c6 := h.hand (i := 6) (by omega)
  rw [h5] at c5
  rw [h6] at c6
  have f1 := h.bfroz hp 1
  obtain ⟨-, p1, -, -⟩ := h.bead hp
  obtain ⟨-, b1, -, -⟩ := h.bead hc
  rw [jnx_ne hct] at b1
  clear h h5 h6
  go_enter Try.func53, Try.ntmps53
  go_region
  all_goals
    (go_wp2
     go_end0
     exact ⟨rfl, ST.cut (H.out.drewN 1) hp hpt, ((JP.refl _ _).drewN 1).trans ((H.out.drewN 1).js.jp_node hp _ _)⟩)
set_option maxRecDepth 100000 in
set_option maxHeartbeats 4000000 in
theorem add_any (h : ST base B nh v kd K ad s lk hs hm w) {p c : Nat} (hp : p < s.sz) (hpt : p ≠ s.tl) (hc : c < s.sz) (htl : s.tl < s.sz) (hnl : ∀ i, i < s.sz → i ≠ s.tl → s.nx i < s.sz) (hlk : lk s.sz = false) (h5 : hm 5 = jp (ad p)) (h6 : hm 6 = jp (ad c)) : Calls Try.prog 52 #[.pointer (some ⟨B, v * 9, none⟩)] w
    fun e w' => ∃ g, RetJ base B nh v kd K (upd ad s.sz g) (s.insc p c K) lk hs hm w e w' := by
  have H := Lib.hid h
  have HK : Hid (∀ m, Calls Try.prog 48 #[.pointer (some ⟨B, v * 9, none⟩)] (w.drewN m) fun e w' => e = .returned (I K) ∧ ∃ m', w' = (w.drewN m).drewN m') := fun m => key_any (h.drewN m)
  have c5 := h.hand (i := 5) (by omega)
  have c6 := h.hand (i := 6) (by omega)
  rw [h5] at c5
  rw [h6] at c6
  have f1 := h.bfroz hp 1
  obtain ⟨-, p1, -, -⟩ := h.bead hp
  have hlt := h.js.l.lt hp
  have HLK := Lib.hid hlk
  have HNL := Lib.hid hnl
  have p1a : ∀ (m : Nat) (o : Obj), ((w.drewN m).alloc o).cell? ⟨ad p, 1, none⟩ = some (jnx s ad p) := fun m o => (((H.out.drewN m).alloc o).bead hp).2.1
  have p1b : ∀ (m m' : Nat) (o : Obj), (((w.drewN m).drewN m').alloc o).cell? ⟨ad p, 1, none⟩ = some (jnx s ad p) := fun m m' o => ((((H.out.drewN m).drewN m').alloc o).bead hp).2.1
  have c5a : ∀ (m : Nat) (o : Obj), ((w.drewN m).alloc o).cell? ⟨B, v * 9 + 5, none⟩ = some (jp (ad p)) := fun m o => by rw [← h5]; exact ((H.out.drewN m).alloc o).hand (by omega)
  have c5b : ∀ (m m' : Nat) (o : Obj), (((w.drewN m).drewN m').alloc o).cell? ⟨B, v * 9 + 5, none⟩ = some (jp (ad p)) := fun m m' o => by rw [← h5]; exact (((H.out.drewN m).drewN m').alloc o).hand (by omega)
  have f1a : ∀ (m : Nat) (o : Obj), ((w.drewN m).alloc o).frozen? ⟨ad p, 1, none⟩ = false := fun m o => ((H.out.drewN m).alloc o).bfroz hp 1
  have f1b : ∀ (m m' : Nat) (o : Obj), (((w.drewN m).drewN m').alloc o).frozen? ⟨ad p, 1, none⟩ = false := fun m m' o => (((H.out.drewN m).drewN m').alloc o).bfroz hp 1
  clear h h5 h6 hlk hnl
  go_enter Try.func52, Try.ntmps52
  go_region_with (first
    | (go_at_call 48
       refine (HK.out 1).mono ?_
       rintro e w1 ⟨rfl, m1, rfl⟩))
  all_goals
    (go_wp2
     go_end0
     have h1 := (H.out.drewN (1 + m1)).insert (K' := K) hp hpt hc htl HNL.out HLK.out
     exact ⟨w.heap.size, rfl, h1.1, ((JP.refl _ _).drewN (1 + m1)).trans h1.2⟩)
end

end Go.Proofs.Ytfmdpmebllepeaa

/-
  package hands: the variables that a deed's functions share; how a deed begins, of each of the four ways.
-/
namespace Go.Proofs.Ytfmdpmebllepeaa
open Go.RowKit

theorem JP.setNew {base : Nat} {w w1 : World} (h : JP base w w1) {p : Addr} (hb : base ≤ p.block) (hp : w.heap.size ≤ p.block) (u : Value) : JP base w (w1.setCell p u) :=
  ⟨fun g cs t f a b c => by
    rw [Below.heap_setCell _ _ _ _ (fun e => by have := jblk a; omega)]
    exact h.kp g cs t f a b c, h.bl.setCell hb u⟩
section
variable {base B nh v : Nat} {kd K : Int} {ad : Nat → Nat} {s : Bs} {lk : Nat → Bool} {hs : Nat → Nat → Value} {hm : Nat → Value} {w : World}
theorem ST.fset (h : ST base B nh v kd K ad s lk hs hm w) {g : Nat} (hb : base ≤ g) {f : Value} (hg : FBox w g f) (u : Value) : ST base B nh v kd K ad s lk hs hm (w.setCell ⟨g, 0, none⟩ u) := by
  have hg' : w.heap[g]? = _ := hg
  have hne : ∀ i, i < s.sz → ad i ≠ g := fun i hi e => by
    have h1 := h.js.l.bd i hi
    unfold JBead at h1
    rw [e, hg'] at h1
    injection h1 with h1
    injection h1 with _ h1
    exact absurd h1 (by decide)
  have hnB : B ≠ g := fun e => by
    obtain ⟨C, h2, _⟩ := h.js.h
    rw [e, hg'] at h2
    injection h2 with h1
    injection h1 with _ h1
    exact absurd h1 (by decide)
  refine ⟨⟨h.js.l.keep fun i hi => Below.heap_setCell _ _ _ _ (hne i hi), h.js.h.keep (Below.heap_setCell _ _ _ _ hnB), h.js.ge⟩, h.hv, h.jd.keep ((Below.refl _ _).setCell (p := ⟨g, 0, none⟩) hb u) rfl rfl⟩
theorem FBox.set {g : Nat} {f : Value} (h : FBox w g f) (u : Value) : FBox (w.setCell ⟨g, 0, none⟩ u) g u := by
  unfold FBox
  rw [jset_at h]
  rfl
theorem FBox.far {g : Nat} {f : Value} (h : FBox w g f) {p : Addr} (hp : g ≠ p.block) (u : Value) : FBox (w.setCell p u) g f := (Below.heap_setCell _ _ _ _ hp).trans h
theorem HBox.far {g : Nat} {f : Value} (h : HBox w g f) {p : Addr} (hp : g ≠ p.block) (u : Value) : HBox (w.setCell p u) g f := (Below.heap_setCell _ _ _ _ hp).trans h
theorem FBox.alloc {g : Nat} {f : Value} (h : FBox w g f) (o : Obj) : FBox (w.alloc o) g f := (Below.heap_alloc _ _ _ h.lt).trans h
theorem HBox.alloc {g : Nat} {f : Value} (h : HBox w g f) (o : Obj) : HBox (w.alloc o) g f := (Below.heap_alloc _ _ _ h.lt).trans h
theorem FBox.new (w : World) (f : Value) : FBox (w.alloc (.cells #[f] 1)) w.heap.size f := heap_alloc_new w _
theorem HBox.new (w : World) (f : Value) : HBox (w.alloc (.cells #[f] 75)) w.heap.size f := heap_alloc_new w _
end

theorem sz_cut {s : Bs} {p c i : Nat} (h : i < s.sz) : i < (s.cut p c).sz := h
theorem sz_ins {s : Bs} {p c i : Nat} {K : Int} (h : i < s.sz) : i < (s.insc p c K).sz := Nat.lt_succ_of_lt h
theorem sz_mc {s : Bs} {p c i : Nat} (h : i < s.sz) : i < ((s.cut p c).mark c).sz := h
def JX (base B nh v : Nat) (kd K : Int) (ad : Nat → Nat) (s : Bs) (lk : Nat → Bool) (hs : Nat → Nat → Value) (hm : Nat → Value) (w0 w : World) : Prop := ST base B nh v kd K ad s lk hs hm w ∧ JP base w0 w
section
variable {base B nh v : Nat} {kd K : Int} {ad : Nat → Nat} {s : Bs} {lk : Nat → Bool} {hs : Nat → Nat → Value} {hm : Nat → Value} {w0 w : World}
theorem JX.start (h : ST base B nh v kd K ad s lk hs hm w) : JX base B nh v kd K ad s lk hs hm w w := ⟨h, JP.refl _ _⟩
theorem JX.alloc (h : JX base B nh v kd K ad s lk hs hm w0 w) (o : Obj) : JX base B nh v kd K ad s lk hs hm w0 (w.alloc o) := ⟨h.1.alloc o, h.2.alloc h.1.js.szb o⟩
theorem JX.fld (h : JX base B nh v kd K ad s lk hs hm w0 w) {i : Nat} (hi : i < 9) (h3 : 3 ≤ i) (x : Value) (hx : x.oneCell' = true := by rfl) : JX base B nh v kd K ad s lk hs (upd hm i x) w0 (w.setCell ⟨B, v * 9 + i, none⟩ x) := ⟨h.1.fld hi h3 x hx, h.2.trans (h.1.js.jp_fld _ _)⟩
theorem JX.fset (h : JX base B nh v kd K ad s lk hs hm w0 w) {g : Nat} (hz : w0.heap.size ≤ g) (h0 : base ≤ w0.heap.size) {f : Value} (hg : FBox w g f) (u : Value) : JX base B nh v kd K ad s lk hs hm w0 (w.setCell ⟨g, 0, none⟩ u) :=
  ⟨h.1.fset (by omega) hg u, h.2.setNew (p := ⟨g, 0, none⟩) (by show base ≤ g; omega) hz u⟩
end
theorem FBox.newz (w : World) (f : Value) {z : Nat} (hz : w.heap.size = z) : FBox (w.alloc (.cells #[f] 1)) z f := by rw [← hz]; exact FBox.new w f
theorem HBox.newz (w : World) (f : Value) {z : Nat} (hz : w.heap.size = z) : HBox (w.alloc (.cells #[f] 75)) z f := by rw [← hz]; exact HBox.new w f

abbrev fO1 (hb lb : Nat) : Value := .func (.func 43) #[] #[jp hb, jp lb]
abbrev fO2 (hb ob : Nat) : Value := .func (.func 46) #[] #[jp hb, jp ob]
abbrev fO3 (hb lb : Nat) : Value := .func (.func 47) #[] #[jp hb, jp lb]
structure EnvO (w : World) (P : Value) (hb lb ob : Nat) : Prop where
  h : HBox w hb P
  l : FBox w lb (fO2 hb ob)
  o : FBox w ob (fO3 hb lb)
theorem EnvO.keep {base : Nat} {w w' : World} {P : Value} {hb lb ob : Nat} (h : EnvO w P hb lb ob) (hp : JP base w w') : EnvO w' P hb lb ob := ⟨h.h.keep hp, h.l.keep hp, h.o.keep hp⟩
abbrev fL1 (hb wb : Nat) : Value := .func (.func 56) #[] #[jp hb, jp wb]
abbrev fL2 (hb lb : Nat) : Value := .func (.func 57) #[] #[jp hb, jp lb]
abbrev fL3 (hb ob : Nat) : Value := .func (.func 59) #[] #[jp hb, jp ob]
abbrev fL4 (hb ub : Nat) : Value := .func (.func 60) #[] #[jp hb, jp ub]
abbrev fL5 (hb : Nat) : Value := .func (.func 63) #[] #[jp hb]
structure EnvL (w : World) (P : Value) (hb wb lb ob ub : Nat) : Prop where
  h : HBox w hb P
  k : FBox w wb (fL2 hb lb)
  l : FBox w lb (fL3 hb ob)
  o : FBox w ob (fL4 hb ub)
  u : FBox w ub (fL5 hb)
theorem EnvL.keep {base : Nat} {w w' : World} {P : Value} {hb wb lb ob ub : Nat} (h : EnvL w P hb wb lb ob ub) (hp : JP base w w') : EnvL w' P hb wb lb ob ub := ⟨h.h.keep hp, h.k.keep hp, h.l.keep hp, h.o.keep hp, h.u.keep hp⟩
abbrev fW1 (hb ab cb : Nat) : Value := .func (.func 78) #[] #[jp hb, jp ab, jp cb]
abbrev fW2 (hb lb : Nat) : Value := .func (.func 79) #[] #[jp hb, jp lb]
structure EnvW (w : World) (P : Value) (hb ab cb lb : Nat) (fa fc : Value) : Prop where
  h : HBox w hb P
  a : FBox w ab fa
  c : FBox w cb fc
  l : FBox w lb (fW1 hb ab cb)
theorem EnvW.keep {base : Nat} {w w' : World} {P : Value} {hb ab cb lb : Nat} {fa fc : Value} (h : EnvW w P hb ab cb lb fa fc) (hp : JP base w w') : EnvW w' P hb ab cb lb fa fc := ⟨h.h.keep hp, h.a.keep hp, h.c.keep hp, h.l.keep hp⟩
abbrev fM1 (gb : Nat) : Value := .func (.func 64) #[] #[jp gb]
abbrev fM2 (gb : Nat) : Value := .func (.func 65) #[] #[jp gb]
abbrev fM3 (gb ub : Nat) : Value := .func (.func 66) #[] #[jp gb, jp ub]
abbrev fN1 (gb : Nat) : Value := .func (.func 68) #[] #[jp gb]
abbrev fN2 (gb : Nat) : Value := .func (.func 69) #[] #[jp gb]
structure EnvM (w : World) (P : Value) (gb ub hb ab cb lb : Nat) : Prop where
  g : HBox w gb P
  u : FBox w ub (fM2 gb)
  e : EnvW w P hb ab cb lb (fM1 gb) (fM3 gb ub)
theorem EnvM.keep {base : Nat} {w w' : World} {P : Value} {gb ub hb ab cb lb : Nat} (h : EnvM w P gb ub hb ab cb lb) (hp : JP base w w') : EnvM w' P gb ub hb ab cb lb := ⟨h.g.keep hp, h.u.keep hp, h.e.keep hp⟩
structure EnvN (w : World) (P : Value) (gb hb ab cb lb : Nat) : Prop where
  g : HBox w gb P
  e : EnvW w P hb ab cb lb (fN1 gb) (fN2 gb)
theorem EnvN.keep {base : Nat} {w w' : World} {P : Value} {gb hb ab cb lb : Nat} (h : EnvN w P gb hb ab cb lb) (hp : JP base w w') : EnvN w' P gb hb ab cb lb := ⟨h.g.keep hp, h.e.keep hp⟩

def NXO (w : World) (P : Value) (at_ : Nat) (f : Value) : Prop := ∃ hb lb ob, EnvO w P hb lb ob ∧ f = (if at_ = 0 then fO1 hb lb else if at_ = 1 then fO2 hb ob else fO3 hb lb)
def NXL (w : World) (P : Value) (at_ : Nat) (f : Value) : Prop := ∃ hb wb lb ob ub, EnvL w P hb wb lb ob ub ∧ f = (if at_ = 0 then fL1 hb wb else if at_ ≤ 2 then fL2 hb lb else if at_ = 3 then fL3 hb ob else if at_ = 4 then fL4 hb ub else fL5 hb)
def NXM (w : World) (P : Value) (at_ : Nat) (kd : Int) (f : Value) : Prop := ∃ gb ub hb ab cb lb, EnvM w P gb ub hb ab cb lb ∧ f = (if at_ = 0 then fW2 hb lb else if at_ = 1 then fW1 hb ab cb else if at_ = 2 then (if kd = 1 then fM1 gb else fM3 gb ub) else fM2 gb)
def NXN (w : World) (P : Value) (at_ : Nat) (kd : Int) (f : Value) : Prop := ∃ gb hb ab cb lb, EnvN w P gb hb ab cb lb ∧ f = (if at_ = 0 then fW2 hb lb else if at_ = 1 then fW1 hb ab cb else (if kd = 1 then fN1 gb else fN2 gb))
def NX (al : Nat) (w : World) (P : Value) (at_ : Nat) (kd : Int) (f : Value) : Prop :=
  (al = 1 → NXO w P at_ f) ∧ (al = 2 → NXL w P at_ f) ∧ (al = 3 → NXM w P at_ kd f) ∧ (al = 4 → NXN w P at_ kd f)
theorem NX.keep {al base : Nat} {w w' : World} {P : Value} {at_ : Nat} {kd : Int} {f : Value} (h : NX al w P at_ kd f) (hp : JP base w w') : NX al w' P at_ kd f := by
  refine ⟨fun e => ?_, fun e => ?_, fun e => ?_, fun e => ?_⟩
  · obtain ⟨hb, lb, ob, a, b⟩ := h.1 e; exact ⟨hb, lb, ob, a.keep hp, b⟩
  · obtain ⟨hb, wb, lb, ob, ub, a, b⟩ := h.2.1 e; exact ⟨hb, wb, lb, ob, ub, a.keep hp, b⟩
  · obtain ⟨gb, ub, hb, ab, cb, lb, a, b⟩ := h.2.2.1 e; exact ⟨gb, ub, hb, ab, cb, lb, a.keep hp, b⟩
  · obtain ⟨gb, hb, ab, cb, lb, a, b⟩ := h.2.2.2 e; exact ⟨gb, hb, ab, cb, lb, a.keep hp, b⟩
theorem NX.of1 {w : World} {P : Value} {at_ : Nat} {kd : Int} {f : Value} (h : NXO w P at_ f) : NX 1 w P at_ kd f := ⟨fun _ => h, fun e => absurd e (by decide), fun e => absurd e (by decide), fun e => absurd e (by decide)⟩
theorem NX.of2 {w : World} {P : Value} {at_ : Nat} {kd : Int} {f : Value} (h : NXL w P at_ f) : NX 2 w P at_ kd f := ⟨fun e => absurd e (by decide), fun _ => h, fun e => absurd e (by decide), fun e => absurd e (by decide)⟩
theorem NX.of3 {w : World} {P : Value} {at_ : Nat} {kd : Int} {f : Value} (h : NXM w P at_ kd f) : NX 3 w P at_ kd f := ⟨fun e => absurd e (by decide), fun e => absurd e (by decide), fun _ => h, fun e => absurd e (by decide)⟩
theorem NX.of4 {w : World} {P : Value} {at_ : Nat} {kd : Int} {f : Value} (h : NXN w P at_ kd f) : NX 4 w P at_ kd f := ⟨fun e => absurd e (by decide), fun e => absurd e (by decide), fun e => absurd e (by decide), fun _ => h⟩
abbrev fWay (al : Nat) : Value := if al = 1 then .func (.func 24) #[] #[] else if al = 2 then .func (.func 25) #[] #[] else if al = 3 then .func (.func 26) #[] #[] else .func (.func 27) #[] #[]

def RetB (al base B nh v : Nat) (kd K : Int) (ad : Nat → Nat) (s : Bs) (lk : Nat → Bool) (hs : Nat → Nat → Value) (hm : Nat → Value) (w : World) (e : Ending) (w' : World) : Prop :=
  ∃ f, RetJ base B nh v kd K ad s lk hs (upd hm 7 f) w e w' ∧ NX al w' (.pointer (some ⟨B, v * 9, none⟩)) 0 kd f

end Go.Proofs.Ytfmdpmebllepeaa

/-
  package hands: a deed begins, of each of the four ways. Written by tools/gen_jbegin.py.
-/
namespace Go.Proofs.Ytfmdpmebllepeaa
open Go.RowKit

section
variable {base B nh v : Nat} {kd K : Int} {ad : Nat → Nat} {s : Bs} {lk : Nat → Bool} {hs : Nat → Nat → Value} {hm : Nat → Value} {w : World}

set_option maxRecDepth 100000 in
set_option maxHeartbeats 4000000 in
theorem wayO_any (h : ST base B nh v kd K ad s lk hs hm w) : Calls Try.prog 24 #[.pointer (some ⟨B, v * 9, none⟩)] w (RetB 1 base B nh v kd K ad s lk hs hm w) := by
  have H := Lib.hid h
  have hsz := h.js.szb
  have c7 : ∀ (o0 o1 o2 : Obj), (((w.alloc o0).alloc o1).alloc o2).cell? ⟨B, v * 9 + 7, none⟩ = some (hm 7) := fun o0 o1 o2 => (((h.alloc o0).alloc o1).alloc o2).hand (by omega)
  have f7 : ∀ (o0 o1 o2 : Obj), (((w.alloc o0).alloc o1).alloc o2).frozen? ⟨B, v * 9 + 7, none⟩ = false := fun o0 o1 o2 => (((h.alloc o0).alloc o1).alloc o2).hfroz _
  have hB := h.js.h.lt
  clear h
  go_enter Try.func24, Try.ntmps24
  go_wp2
  go_end0
  have b1 := HBox.newz w (.pointer (some ⟨B, v * 9, none⟩)) (z := w.heap.size) rfl
  have hx2 := (JX.start H.out).alloc (.cells #[(.pointer (some ⟨B, v * 9, none⟩))] 75)
  have b3 := b1.alloc (.cells #[.nilFunc] 1)
  have b4 := FBox.newz (w.alloc (.cells #[(.pointer (some ⟨B, v * 9, none⟩))] 75)) .nilFunc (z := w.heap.size + 1) (by simp)
  have hx5 := hx2.alloc (.cells #[.nilFunc] 1)
  have b6 := b3.alloc (.cells #[.nilFunc] 1)
  have b7 := b4.alloc (.cells #[.nilFunc] 1)
  have b8 := FBox.newz ((w.alloc (.cells #[(.pointer (some ⟨B, v * 9, none⟩))] 75)).alloc (.cells #[.nilFunc] 1)) .nilFunc (z := w.heap.size + 1 + 1) (by simp)
  have hx9 := hx5.alloc (.cells #[.nilFunc] 1)
  have b10 := b6.far (p := ⟨B, v * 9 + 7, none⟩) (by show _ ≠ B; omega) (fO1 w.heap.size (w.heap.size + 1))
  have b11 := b7.far (p := ⟨B, v * 9 + 7, none⟩) (by show _ ≠ B; omega) (fO1 w.heap.size (w.heap.size + 1))
  have b12 := b8.far (p := ⟨B, v * 9 + 7, none⟩) (by show _ ≠ B; omega) (fO1 w.heap.size (w.heap.size + 1))
  have hx13 := hx9.fld (i := 7) (by omega) (by omega) (fO1 w.heap.size (w.heap.size + 1))
  have hx14 := hx13.fset (by omega) hsz b11 (fO2 w.heap.size (w.heap.size + 1 + 1))
  have b15 := b10.far (p := ⟨w.heap.size + 1, 0, none⟩) (by show _ ≠ w.heap.size + 1; omega) (fO2 w.heap.size (w.heap.size + 1 + 1))
  have b16 := b11.set (fO2 w.heap.size (w.heap.size + 1 + 1))
  have b17 := b12.far (p := ⟨w.heap.size + 1, 0, none⟩) (by show _ ≠ w.heap.size + 1; omega) (fO2 w.heap.size (w.heap.size + 1 + 1))
  have hx18 := hx14.fset (by omega) hsz b17 (fO3 w.heap.size (w.heap.size + 1))
  have b19 := b15.far (p := ⟨w.heap.size + 1 + 1, 0, none⟩) (by show _ ≠ w.heap.size + 1 + 1; omega) (fO3 w.heap.size (w.heap.size + 1))
  have b20 := b16.far (p := ⟨w.heap.size + 1 + 1, 0, none⟩) (by show _ ≠ w.heap.size + 1 + 1; omega) (fO3 w.heap.size (w.heap.size + 1))
  have b21 := b17.set (fO3 w.heap.size (w.heap.size + 1))
  exact ⟨_, ⟨rfl, hx18.1, hx18.2⟩, NX.of1 ⟨_, _, _, ⟨b19, b20, b21⟩, rfl⟩⟩

set_option maxRecDepth 100000 in
set_option maxHeartbeats 4000000 in
theorem wayL_any (h : ST base B nh v kd K ad s lk hs hm w) : Calls Try.prog 25 #[.pointer (some ⟨B, v * 9, none⟩)] w (RetB 2 base B nh v kd K ad s lk hs hm w) := by
  have H := Lib.hid h
  have hsz := h.js.szb
  have c7 : ∀ (o0 o1 o2 o3 o4 : Obj), (((((w.alloc o0).alloc o1).alloc o2).alloc o3).alloc o4).cell? ⟨B, v * 9 + 7, none⟩ = some (hm 7) := fun o0 o1 o2 o3 o4 => (((((h.alloc o0).alloc o1).alloc o2).alloc o3).alloc o4).hand (by omega)
  have f7 : ∀ (o0 o1 o2 o3 o4 : Obj), (((((w.alloc o0).alloc o1).alloc o2).alloc o3).alloc o4).frozen? ⟨B, v * 9 + 7, none⟩ = false := fun o0 o1 o2 o3 o4 => (((((h.alloc o0).alloc o1).alloc o2).alloc o3).alloc o4).hfroz _
  have hB := h.js.h.lt
  clear h
  go_enter Try.func25, Try.ntmps25
  go_wp2
  go_end0
  have b1 := HBox.newz w (.pointer (some ⟨B, v * 9, none⟩)) (z := w.heap.size) rfl
  have hx2 := (JX.start H.out).alloc (.cells #[(.pointer (some ⟨B, v * 9, none⟩))] 75)
  have b3 := b1.alloc (.cells #[.nilFunc] 1)
  have b4 := FBox.newz (w.alloc (.cells #[(.pointer (some ⟨B, v * 9, none⟩))] 75)) .nilFunc (z := w.heap.size + 1) (by simp)
  have hx5 := hx2.alloc (.cells #[.nilFunc] 1)
  have b6 := b3.alloc (.cells #[.nilFunc] 1)
  have b7 := b4.alloc (.cells #[.nilFunc] 1)
  have b8 := FBox.newz ((w.alloc (.cells #[(.pointer (some ⟨B, v * 9, none⟩))] 75)).alloc (.cells #[.nilFunc] 1)) .nilFunc (z := w.heap.size + 1 + 1) (by simp)
  have hx9 := hx5.alloc (.cells #[.nilFunc] 1)
  have b10 := b6.alloc (.cells #[.nilFunc] 1)
  have b11 := b7.alloc (.cells #[.nilFunc] 1)
  have b12 := b8.alloc (.cells #[.nilFunc] 1)
  have b13 := FBox.newz (((w.alloc (.cells #[(.pointer (some ⟨B, v * 9, none⟩))] 75)).alloc (.cells #[.nilFunc] 1)).alloc (.cells #[.nilFunc] 1)) .nilFunc (z := w.heap.size + 1 + 1 + 1) (by simp)
  have hx14 := hx9.alloc (.cells #[.nilFunc] 1)
  have b15 := b10.alloc (.cells #[.nilFunc] 1)
  have b16 := b11.alloc (.cells #[.nilFunc] 1)
  have b17 := b12.alloc (.cells #[.nilFunc] 1)
  have b18 := b13.alloc (.cells #[.nilFunc] 1)
  have b19 := FBox.newz ((((w.alloc (.cells #[(.pointer (some ⟨B, v * 9, none⟩))] 75)).alloc (.cells #[.nilFunc] 1)).alloc (.cells #[.nilFunc] 1)).alloc (.cells #[.nilFunc] 1)) .nilFunc (z := w.heap.size + 1 + 1 + 1 + 1) (by simp)
  have hx20 := hx14.alloc (.cells #[.nilFunc] 1)
  have b21 := b15.far (p := ⟨B, v * 9 + 7, none⟩) (by show _ ≠ B; omega) (fL1 w.heap.size (w.heap.size + 1))
  have b22 := b16.far (p := ⟨B, v * 9 + 7, none⟩) (by show _ ≠ B; omega) (fL1 w.heap.size (w.heap.size + 1))
  have b23 := b17.far (p := ⟨B, v * 9 + 7, none⟩) (by show _ ≠ B; omega) (fL1 w.heap.size (w.heap.size + 1))
  have b24 := b18.far (p := ⟨B, v * 9 + 7, none⟩) (by show _ ≠ B; omega) (fL1 w.heap.size (w.heap.size + 1))
  have b25 := b19.far (p := ⟨B, v * 9 + 7, none⟩) (by show _ ≠ B; omega) (fL1 w.heap.size (w.heap.size + 1))
  have hx26 := hx20.fld (i := 7) (by omega) (by omega) (fL1 w.heap.size (w.heap.size + 1))
  have hx27 := hx26.fset (by omega) hsz b22 (fL2 w.heap.size (w.heap.size + 1 + 1))
  have b28 := b21.far (p := ⟨w.heap.size + 1, 0, none⟩) (by show _ ≠ w.heap.size + 1; omega) (fL2 w.heap.size (w.heap.size + 1 + 1))
  have b29 := b22.set (fL2 w.heap.size (w.heap.size + 1 + 1))
  have b30 := b23.far (p := ⟨w.heap.size + 1, 0, none⟩) (by show _ ≠ w.heap.size + 1; omega) (fL2 w.heap.size (w.heap.size + 1 + 1))
  have b31 := b24.far (p := ⟨w.heap.size + 1, 0, none⟩) (by show _ ≠ w.heap.size + 1; omega) (fL2 w.heap.size (w.heap.size + 1 + 1))
  have b32 := b25.far (p := ⟨w.heap.size + 1, 0, none⟩) (by show _ ≠ w.heap.size + 1; omega) (fL2 w.heap.size (w.heap.size + 1 + 1))
  have hx33 := hx27.fset (by omega) hsz b30 (fL3 w.heap.size (w.heap.size + 1 + 1 + 1))
  have b34 := b28.far (p := ⟨w.heap.size + 1 + 1, 0, none⟩) (by show _ ≠ w.heap.size + 1 + 1; omega) (fL3 w.heap.size (w.heap.size + 1 + 1 + 1))
  have b35 := b29.far (p := ⟨w.heap.size + 1 + 1, 0, none⟩) (by show _ ≠ w.heap.size + 1 + 1; omega) (fL3 w.heap.size (w.heap.size + 1 + 1 + 1))
  have b36 := b30.set (fL3 w.heap.size (w.heap.size + 1 + 1 + 1))
  have b37 := b31.far (p := ⟨w.heap.size + 1 + 1, 0, none⟩) (by show _ ≠ w.heap.size + 1 + 1; omega) (fL3 w.heap.size (w.heap.size + 1 + 1 + 1))
  have b38 := b32.far (p := ⟨w.heap.size + 1 + 1, 0, none⟩) (by show _ ≠ w.heap.size + 1 + 1; omega) (fL3 w.heap.size (w.heap.size + 1 + 1 + 1))
  have hx39 := hx33.fset (by omega) hsz b37 (fL4 w.heap.size (w.heap.size + 1 + 1 + 1 + 1))
  have b40 := b34.far (p := ⟨w.heap.size + 1 + 1 + 1, 0, none⟩) (by show _ ≠ w.heap.size + 1 + 1 + 1; omega) (fL4 w.heap.size (w.heap.size + 1 + 1 + 1 + 1))
  have b41 := b35.far (p := ⟨w.heap.size + 1 + 1 + 1, 0, none⟩) (by show _ ≠ w.heap.size + 1 + 1 + 1; omega) (fL4 w.heap.size (w.heap.size + 1 + 1 + 1 + 1))
  have b42 := b36.far (p := ⟨w.heap.size + 1 + 1 + 1, 0, none⟩) (by show _ ≠ w.heap.size + 1 + 1 + 1; omega) (fL4 w.heap.size (w.heap.size + 1 + 1 + 1 + 1))
  have b43 := b37.set (fL4 w.heap.size (w.heap.size + 1 + 1 + 1 + 1))
  have b44 := b38.far (p := ⟨w.heap.size + 1 + 1 + 1, 0, none⟩) (by show _ ≠ w.heap.size + 1 + 1 + 1; omega) (fL4 w.heap.size (w.heap.size + 1 + 1 + 1 + 1))
  have hx45 := hx39.fset (by omega) hsz b44 (fL5 w.heap.size)
  have b46 := b40.far (p := ⟨w.heap.size + 1 + 1 + 1 + 1, 0, none⟩) (by show _ ≠ w.heap.size + 1 + 1 + 1 + 1; omega) (fL5 w.heap.size)
  have b47 := b41.far (p := ⟨w.heap.size + 1 + 1 + 1 + 1, 0, none⟩) (by show _ ≠ w.heap.size + 1 + 1 + 1 + 1; omega) (fL5 w.heap.size)
  have b48 := b42.far (p := ⟨w.heap.size + 1 + 1 + 1 + 1, 0, none⟩) (by show _ ≠ w.heap.size + 1 + 1 + 1 + 1; omega) (fL5 w.heap.size)
  have b49 := b43.far (p := ⟨w.heap.size + 1 + 1 + 1 + 1, 0, none⟩) (by show _ ≠ w.heap.size + 1 + 1 + 1 + 1; omega) (fL5 w.heap.size)
  have b50 := b44.set (fL5 w.heap.size)
  exact ⟨_, ⟨rfl, hx45.1, hx45.2⟩, NX.of2 ⟨_, _, _, _, _, ⟨b46, b47, b48, b49, b50⟩, rfl⟩⟩

def RetW (base B nh v : Nat) (kd K : Int) (ad : Nat → Nat) (s : Bs) (lk : Nat → Bool) (hs : Nat → Nat → Value) (hm : Nat → Value) (fa fc : Value) (w : World) (e : Ending) (w' : World) : Prop :=
  ∃ hb ab cb lb, RetJ base B nh v kd K ad s lk hs (upd hm 7 (fW2 hb lb)) w e w' ∧ EnvW w' (.pointer (some ⟨B, v * 9, none⟩)) hb ab cb lb fa fc

set_option maxRecDepth 100000 in
set_option maxHeartbeats 4000000 in
theorem without_any (h : ST base B nh v kd K ad s lk hs hm w) (na nc : Nat) (ca cc : Array Value) : Calls Try.prog 67 #[.pointer (some ⟨B, v * 9, none⟩), .func (.func na) #[] ca, .func (.func nc) #[] cc] w (RetW base B nh v kd K ad s lk hs hm (.func (.func na) #[] ca) (.func (.func nc) #[] cc) w) := by
  have H := Lib.hid h
  have hsz := h.js.szb
  have c7 : ∀ (o0 o1 o2 o3 : Obj), ((((w.alloc o0).alloc o1).alloc o2).alloc o3).cell? ⟨B, v * 9 + 7, none⟩ = some (hm 7) := fun o0 o1 o2 o3 => ((((h.alloc o0).alloc o1).alloc o2).alloc o3).hand (by omega)
  have f7 : ∀ (o0 o1 o2 o3 : Obj), ((((w.alloc o0).alloc o1).alloc o2).alloc o3).frozen? ⟨B, v * 9 + 7, none⟩ = false := fun o0 o1 o2 o3 => ((((h.alloc o0).alloc o1).alloc o2).alloc o3).hfroz _
  have hB := h.js.h.lt
  clear h
  go_enter Try.func67, Try.ntmps67
  go_wp2
  go_end0
  have b1 := HBox.newz w (.pointer (some ⟨B, v * 9, none⟩)) (z := w.heap.size) rfl
  have hx2 := (JX.start H.out).alloc (.cells #[(.pointer (some ⟨B, v * 9, none⟩))] 75)
  have b3 := b1.alloc (.cells #[(.func (.func na) #[] ca)] 1)
  have b4 := FBox.newz (w.alloc (.cells #[(.pointer (some ⟨B, v * 9, none⟩))] 75)) (.func (.func na) #[] ca) (z := w.heap.size + 1) (by simp)
  have hx5 := hx2.alloc (.cells #[(.func (.func na) #[] ca)] 1)
  have b6 := b3.alloc (.cells #[(.func (.func nc) #[] cc)] 1)
  have b7 := b4.alloc (.cells #[(.func (.func nc) #[] cc)] 1)
  have b8 := FBox.newz ((w.alloc (.cells #[(.pointer (some ⟨B, v * 9, none⟩))] 75)).alloc (.cells #[(.func (.func na) #[] ca)] 1)) (.func (.func nc) #[] cc) (z := w.heap.size + 1 + 1) (by simp)
  have hx9 := hx5.alloc (.cells #[(.func (.func nc) #[] cc)] 1)
  have b10 := b6.alloc (.cells #[(fW1 w.heap.size (w.heap.size + 1) (w.heap.size + 1 + 1))] 1)
  have b11 := b7.alloc (.cells #[(fW1 w.heap.size (w.heap.size + 1) (w.heap.size + 1 + 1))] 1)
  have b12 := b8.alloc (.cells #[(fW1 w.heap.size (w.heap.size + 1) (w.heap.size + 1 + 1))] 1)
  have b13 := FBox.newz (((w.alloc (.cells #[(.pointer (some ⟨B, v * 9, none⟩))] 75)).alloc (.cells #[(.func (.func na) #[] ca)] 1)).alloc (.cells #[(.func (.func nc) #[] cc)] 1)) (fW1 w.heap.size (w.heap.size + 1) (w.heap.size + 1 + 1)) (z := w.heap.size + 1 + 1 + 1) (by simp)
  have hx14 := hx9.alloc (.cells #[(fW1 w.heap.size (w.heap.size + 1) (w.heap.size + 1 + 1))] 1)
  have b15 := b10.far (p := ⟨B, v * 9 + 7, none⟩) (by show _ ≠ B; omega) (fW2 w.heap.size (w.heap.size + 1 + 1 + 1))
  have b16 := b11.far (p := ⟨B, v * 9 + 7, none⟩) (by show _ ≠ B; omega) (fW2 w.heap.size (w.heap.size + 1 + 1 + 1))
  have b17 := b12.far (p := ⟨B, v * 9 + 7, none⟩) (by show _ ≠ B; omega) (fW2 w.heap.size (w.heap.size + 1 + 1 + 1))
  have b18 := b13.far (p := ⟨B, v * 9 + 7, none⟩) (by show _ ≠ B; omega) (fW2 w.heap.size (w.heap.size + 1 + 1 + 1))
  have hx19 := hx14.fld (i := 7) (by omega) (by omega) (fW2 w.heap.size (w.heap.size + 1 + 1 + 1))
  exact ⟨_, _, _, _, ⟨rfl, hx19.1, hx19.2⟩, ⟨b15, b16, b17, b18⟩⟩

set_option maxRecDepth 100000 in
set_option maxHeartbeats 4000000 in
theorem wayM_any (h : ST base B nh v kd K ad s lk hs hm w) : Calls Try.prog 26 #[.pointer (some ⟨B, v * 9, none⟩)] w (RetB 3 base B nh v kd K ad s lk hs hm w) := by
  have H := Lib.hid h
  have hsz := h.js.szb
  have c7 : w.cell? ⟨B, v * 9 + 7, none⟩ = some (hm 7) := h.hand (by omega)
  have f7 : w.frozen? ⟨B, v * 9 + 7, none⟩ = false := h.hfroz _
  have hB := h.js.h.lt
  clear h
  have b1 := HBox.newz w (.pointer (some ⟨B, v * 9, none⟩)) (z := w.heap.size) rfl
  have hx2 := (JX.start H.out).alloc (.cells #[(.pointer (some ⟨B, v * 9, none⟩))] 75)
  have b3 := b1.alloc (.cells #[(fM2 w.heap.size)] 1)
  have b4 := FBox.newz (w.alloc (.cells #[(.pointer (some ⟨B, v * 9, none⟩))] 75)) (fM2 w.heap.size) (z := w.heap.size + 1) (by simp)
  have hx5 := hx2.alloc (.cells #[(fM2 w.heap.size)] 1)
  have HX := Lib.hid hx5
  have HB0 := Lib.hid b3
  have HB1 := Lib.hid b4
  have HC := Lib.hid (without_any hx5.1 64 66 #[jp w.heap.size] #[jp w.heap.size, jp (w.heap.size + 1)])
  clear b1 hx2 b3 b4 hx5
  go_enter Try.func26, Try.ntmps26
  go_wp2_with fail
  refine HC.out.mono ?_
  rintro e w1 ⟨hb, ab, cb, lb, ⟨rfl, h1, hp1⟩, he1⟩
  have H1 := Lib.hid h1
  have HP1 := Lib.hid hp1
  have HE1 := Lib.hid he1
  clear h1 hp1 he1
  go_wp2
  go_end0
  exact ⟨_, ⟨rfl, H1.out, HX.out.2.trans HP1.out⟩, NX.of3 ⟨_, _, _, _, _, _, ⟨HB0.out.keep HP1.out, HB1.out.keep HP1.out, HE1.out⟩, rfl⟩⟩

set_option maxRecDepth 100000 in
set_option maxHeartbeats 4000000 in
theorem wayN_any (h : ST base B nh v kd K ad s lk hs hm w) : Calls Try.prog 27 #[.pointer (some ⟨B, v * 9, none⟩)] w (RetB 4 base B nh v kd K ad s lk hs hm w) := by
  have H := Lib.hid h
  have hsz := h.js.szb
  have c7 : w.cell? ⟨B, v * 9 + 7, none⟩ = some (hm 7) := h.hand (by omega)
  have f7 : w.frozen? ⟨B, v * 9 + 7, none⟩ = false := h.hfroz _
  have hB := h.js.h.lt
  clear h
  have b1 := HBox.newz w (.pointer (some ⟨B, v * 9, none⟩)) (z := w.heap.size) rfl
  have hx2 := (JX.start H.out).alloc (.cells #[(.pointer (some ⟨B, v * 9, none⟩))] 75)
  have HX := Lib.hid hx2
  have HB0 := Lib.hid b1
  have HC := Lib.hid (without_any hx2.1 68 69 #[jp w.heap.size] #[jp w.heap.size])
  clear b1 hx2
  go_enter Try.func27, Try.ntmps27
  go_wp2_with fail
  refine HC.out.mono ?_
  rintro e w1 ⟨hb, ab, cb, lb, ⟨rfl, h1, hp1⟩, he1⟩
  have H1 := Lib.hid h1
  have HP1 := Lib.hid hp1
  have HE1 := Lib.hid he1
  clear h1 hp1 he1
  go_wp2
  go_end0
  exact ⟨_, ⟨rfl, H1.out, HX.out.2.trans HP1.out⟩, NX.of4 ⟨_, _, _, _, _, ⟨HB0.out.keep HP1.out, HE1.out⟩, rfl⟩⟩

set_option maxRecDepth 100000 in
set_option maxHeartbeats 4000000 in
theorem beginO_any (h : ST base B nh v kd K ad s lk hs hm w) (h3 : hm 3 = fWay 1) : Calls Try.prog 62 #[.pointer (some ⟨B, v * 9, none⟩)] w (RetB 1 base B nh v kd K ad s lk hs hm w) := by
  have c3 := h.hand (i := 3) (by omega)
  rw [h3] at c3
  have c3' : w.cell? ⟨B, v * 9 + 3, none⟩ = some (.func (.func 24) #[] #[]) := c3
  have HC := Lib.hid (wayO_any h)
  clear h h3 c3
  go_enter Try.func62, Try.ntmps62
  go_wp2_with fail
  refine HC.out.mono ?_
  rintro e w1 ⟨f, ⟨rfl, h1, hp1⟩, hn⟩
  have H1 := Lib.hid h1
  have HP1 := Lib.hid hp1
  have HN := Lib.hid hn
  clear h1 hp1 hn
  go_wp2
  go_end0
  exact ⟨f, ⟨rfl, H1.out, HP1.out⟩, HN.out⟩
set_option maxRecDepth 100000 in
set_option maxHeartbeats 4000000 in
theorem beginL_any (h : ST base B nh v kd K ad s lk hs hm w) (h3 : hm 3 = fWay 2) : Calls Try.prog 62 #[.pointer (some ⟨B, v * 9, none⟩)] w (RetB 2 base B nh v kd K ad s lk hs hm w) := by
  have c3 := h.hand (i := 3) (by omega)
  rw [h3] at c3
  have c3' : w.cell? ⟨B, v * 9 + 3, none⟩ = some (.func (.func 25) #[] #[]) := c3
  have HC := Lib.hid (wayL_any h)
  clear h h3 c3
  go_enter Try.func62, Try.ntmps62
  go_wp2_with fail
  refine HC.out.mono ?_
  rintro e w1 ⟨f, ⟨rfl, h1, hp1⟩, hn⟩
  have H1 := Lib.hid h1
  have HP1 := Lib.hid hp1
  have HN := Lib.hid hn
  clear h1 hp1 hn
  go_wp2
  go_end0
  exact ⟨f, ⟨rfl, H1.out, HP1.out⟩, HN.out⟩
set_option maxRecDepth 100000 in
set_option maxHeartbeats 4000000 in
theorem beginM_any (h : ST base B nh v kd K ad s lk hs hm w) (h3 : hm 3 = fWay 3) : Calls Try.prog 62 #[.pointer (some ⟨B, v * 9, none⟩)] w (RetB 3 base B nh v kd K ad s lk hs hm w) := by
  have c3 := h.hand (i := 3) (by omega)
  rw [h3] at c3
  have c3' : w.cell? ⟨B, v * 9 + 3, none⟩ = some (.func (.func 26) #[] #[]) := c3
  have HC := Lib.hid (wayM_any h)
  clear h h3 c3
  go_enter Try.func62, Try.ntmps62
  go_wp2_with fail
  refine HC.out.mono ?_
  rintro e w1 ⟨f, ⟨rfl, h1, hp1⟩, hn⟩
  have H1 := Lib.hid h1
  have HP1 := Lib.hid hp1
  have HN := Lib.hid hn
  clear h1 hp1 hn
  go_wp2
  go_end0
  exact ⟨f, ⟨rfl, H1.out, HP1.out⟩, HN.out⟩
set_option maxRecDepth 100000 in
set_option maxHeartbeats 4000000 in
theorem beginN_any (h : ST base B nh v kd K ad s lk hs hm w) (h3 : hm 3 = fWay 4) : Calls Try.prog 62 #[.pointer (some ⟨B, v * 9, none⟩)] w (RetB 4 base B nh v kd K ad s lk hs hm w) := by
  have c3 := h.hand (i := 3) (by omega)
  rw [h3] at c3
  have c3' : w.cell? ⟨B, v * 9 + 3, none⟩ = some (.func (.func 27) #[] #[]) := c3
  have HC := Lib.hid (wayN_any h)
  clear h h3 c3
  go_enter Try.func62, Try.ntmps62
  go_wp2_with fail
  refine HC.out.mono ?_
  rintro e w1 ⟨f, ⟨rfl, h1, hp1⟩, hn⟩
  have H1 := Lib.hid h1
  have HP1 := Lib.hid hp1
  have HN := Lib.hid hn
  clear h1 hp1 hn
  go_wp2
  go_end0
  exact ⟨f, ⟨rfl, H1.out, HP1.out⟩, HN.out⟩

theorem begin_any {al : Nat} (hal : al = 1 ∨ al = 2 ∨ al = 3 ∨ al = 4) (h : ST base B nh v kd K ad s lk hs hm w) (h3 : hm 3 = fWay al) : Calls Try.prog 62 #[.pointer (some ⟨B, v * 9, none⟩)] w (RetB al base B nh v kd K ad s lk hs hm w) := by
  rcases hal with rfl | rfl | rfl | rfl
  · exact beginO_any h h3
  · exact beginL_any h h3
  · exact beginM_any h h3
  · exact beginN_any h h3
end

end Go.Proofs.Ytfmdpmebllepeaa

/-
  package hands: what a step of a hand comes to, beside the plain step.
-/
namespace Go.Proofs.Ytfmdpmebllepeaa
open Go.RowKit

def RetC (base B nh v : Nat) (kd K : Int) (ad : Nat → Nat) (sz : Nat) (hs : Nat → Nat → Value) (hm : Nat → Value) (al : Nat) (r : Rel) (w : World) (e : Ending) (w' : World) : Prop :=
  ∃ ad' hm', (∀ i, i < sz → ad' i = ad i) ∧ RetJ base B nh v kd K ad' r.s r.lk hs hm' w e w' ∧ (∀ i, i ≤ 4 → hm' i = hm i) ∧ (r.over = true → hm' 7 = .nilFunc ∧ hm' 8 = .bool r.h.is_) ∧
    (r.over = false → NX al w' (.pointer (some ⟨B, v * 9, none⟩)) r.h.at_ kd (hm' 7) ∧ (r.h.at_ ≠ 0 → hm' 5 = jp (ad' r.h.p) ∧ hm' 6 = jp (ad' r.h.c)))
section
variable {base B nh v : Nat} {kd K : Int} {ad ad' : Nat → Nat} {s s' : Bs} {lk lk' : Nat → Bool} {hs : Nat → Nat → Value} {hm hm' : Nat → Value} {w w' : World} {e : Ending} {al : Nat}
theorem retC_over {q : Hd} {ef : Eff} {b : Bool} (hr : RetJ base B nh v kd K ad' s' lk' hs (upd (upd hm 7 .nilFunc) 8 (.bool b)) w e w') (hb : q.is_ = b) (had : ∀ i, i < s.sz → ad' i = ad i) : RetC base B nh v kd K ad s.sz hs hm al ⟨s', lk', q, ef, true⟩ w e w' :=
  ⟨ad', _, had, hr, fun i hi => by rw [upd_other _ _ (by omega), upd_other _ _ (by omega)], fun _ => ⟨by rw [upd_other _ _ (by omega), upd_same], by rw [upd_same, hb]⟩, fun h => by cases h⟩
theorem retC_go {q : Hd} {ef : Eff} (hr : RetJ base B nh v kd K ad s' lk' hs hm' w e w') (h4 : ∀ i, i ≤ 4 → hm' i = hm i) (hn : NX al w' (.pointer (some ⟨B, v * 9, none⟩)) q.at_ kd (hm' 7)) (hp : q.at_ ≠ 0 → hm' 5 = jp (ad q.p) ∧ hm' 6 = jp (ad q.c)) : RetC base B nh v kd K ad s.sz hs hm al ⟨s', lk', q, ef, false⟩ w e w' :=
  ⟨ad, hm', fun _ _ => rfl, hr, h4, fun h => (by cases h), fun _ => ⟨hn, hp⟩⟩
theorem retC_7 {q : Hd} {ef : Eff} {f : Value} (hr : RetJ base B nh v kd K ad s' lk' hs (upd hm 7 f) w e w') (hn : NX al w' (.pointer (some ⟨B, v * 9, none⟩)) q.at_ kd f) (hp : q.at_ ≠ 0 → hm 5 = jp (ad q.p) ∧ hm 6 = jp (ad q.c)) : RetC base B nh v kd K ad s.sz hs hm al ⟨s', lk', q, ef, false⟩ w e w' :=
  retC_go hr (fun i hi => by rw [upd_other _ _ (by omega)]) (by rw [upd_same]; exact hn) (fun h => by rw [upd_other _ _ (by omega), upd_other _ _ (by omega)]; exact hp h)
theorem retC_567 {q : Hd} {ef : Eff} {f a b : Value} (hr : RetJ base B nh v kd K ad s' lk' hs (upd (upd (upd hm 5 a) 6 b) 7 f) w e w') (hn : NX al w' (.pointer (some ⟨B, v * 9, none⟩)) q.at_ kd f) (ha : a = jp (ad q.p)) (hb : b = jp (ad q.c)) : RetC base B nh v kd K ad s.sz hs hm al ⟨s', lk', q, ef, false⟩ w e w' :=
  retC_go hr (fun i hi => by rw [upd_other _ _ (by omega), upd_other _ _ (by omega), upd_other _ _ (by omega)]) (by rw [upd_same]; exact hn) (fun _ => ⟨by rw [upd_other _ _ (by omega), upd_other _ _ (by omega), upd_same, ha], by rw [upd_other _ _ (by omega), upd_same, hb]⟩)
theorem retC_56 {q : Hd} {ef : Eff} {a b : Value} (hr : RetJ base B nh v kd K ad s' lk' hs (upd (upd hm 5 a) 6 b) w e w') (hn : NX al w' (.pointer (some ⟨B, v * 9, none⟩)) q.at_ kd (hm 7)) (ha : a = jp (ad q.p)) (hb : b = jp (ad q.c)) : RetC base B nh v kd K ad s.sz hs hm al ⟨s', lk', q, ef, false⟩ w e w' :=
  retC_go hr (fun i hi => by rw [upd_other _ _ (by omega), upd_other _ _ (by omega)]) (by rw [upd_other _ _ (by omega), upd_other _ _ (by omega)]; exact hn) (fun _ => ⟨by rw [upd_other _ _ (by omega), upd_same, ha], by rw [upd_same, hb]⟩)
theorem retC_same {q : Hd} {ef : Eff} (hr : RetJ base B nh v kd K ad s' lk' hs hm w e w') (hn : NX al w' (.pointer (some ⟨B, v * 9, none⟩)) q.at_ kd (hm 7)) (hp : q.at_ ≠ 0 → hm 5 = jp (ad q.p) ∧ hm 6 = jp (ad q.c)) : RetC base B nh v kd K ad s.sz hs hm al ⟨s', lk', q, ef, false⟩ w e w' :=
  retC_go hr (fun _ _ => rfl) hn hp
theorem retC_begin {q : Hd} {ef : Eff} (hr : RetB al base B nh v kd K ad s' lk' hs hm w e w') (h0 : q.at_ = 0) : RetC base B nh v kd K ad s.sz hs hm al ⟨s', lk', q, ef, false⟩ w e w' := by
  obtain ⟨f, h1, h2⟩ := hr
  exact retC_7 h1 (by rw [h0]; exact h2) (fun h => absurd h0 h)
theorem upd_ad {sz g : Nat} : ∀ i, i < sz → upd ad sz g i = ad i := fun i hi => upd_other _ _ (by omega)
theorem insc_ins {p c : Nat} (h : s.nx p = c) (K : Int) : s.insc p c K = s.ins p K := by rw [← h]; rfl
end

end Go.Proofs.Ytfmdpmebllepeaa
