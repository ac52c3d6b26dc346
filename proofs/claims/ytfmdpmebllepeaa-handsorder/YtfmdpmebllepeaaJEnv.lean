/-
  package hands: the variables that a deed's functions share; how a deed begins, of each of the four ways.
-/
import Derived.Test.YtfmdpmebllepeaaJDo
namespace Go.Proofs.Ytfmdpmebllepeaa
open Go.RowKit

theorem JP.setNew {base : Nat} {w w1 : World} (h : JP base w w1) {p : Addr} (hb : base ≤ p.block) (hp : w.heap.size ≤ p.block) (u : Value) : JP base w (w1.setCell p u) :=
  ⟨fun g cs t f a b c => by
    rw [Below.heap_setCell _ _ _ _ (fun e => by have := jblk a; omega)]
    exact h.kp g cs t f a b c, h.bl.setCell hb u⟩
section
variable {base B nh v : Nat} {kd K : Int} {ad : Nat → Nat} {s : Bs} {lk : Nat → Bool} {hs : Nat → Nat → Value} {hm : Nat → Value} {w : World}
/-- a variable of a function is set -/
theorem ST.fset (h : ST base B nh v kd K ad s lk hs hm w) {g : Nat} (hb : base ≤ g) {f : Value} (hg : FBox w g f) (u : Value) : ST base B nh v kd K ad s lk hs hm (w.setCell ⟨g, 0, none⟩ u) := by
  have hg' : w.heap[g]? = _ := hg
  have hne : ∀ i, i < s.sz → ad i ≠ g := fun i hi e => by
    have h1 := h.js.l.bd i hi
    unfold JBead at h1
    rw [e, hg'] at h1
    injection h1 with h1
    injection h1 with _ h1
    exact absurd h1 (by decide)
  have hnB : B ≠ g := fun e => by
    obtain ⟨C, h2, _⟩ := h.js.h
    rw [e, hg'] at h2
    injection h2 with h1
    injection h1 with _ h1
    exact absurd h1 (by decide)
  refine ⟨⟨h.js.l.keep fun i hi => Below.heap_setCell _ _ _ _ (hne i hi), h.js.h.keep (Below.heap_setCell _ _ _ _ hnB), h.js.ge⟩, h.hv, h.jd.keep ((Below.refl _ _).setCell (p := ⟨g, 0, none⟩) hb u) rfl rfl⟩
theorem FBox.set {g : Nat} {f : Value} (h : FBox w g f) (u : Value) : FBox (w.setCell ⟨g, 0, none⟩ u) g u := by
  unfold FBox
  rw [jset_at h]
  rfl
theorem FBox.far {g : Nat} {f : Value} (h : FBox w g f) {p : Addr} (hp : g ≠ p.block) (u : Value) : FBox (w.setCell p u) g f := (Below.heap_setCell _ _ _ _ hp).trans h
theorem HBox.far {g : Nat} {f : Value} (h : HBox w g f) {p : Addr} (hp : g ≠ p.block) (u : Value) : HBox (w.setCell p u) g f := (Below.heap_setCell _ _ _ _ hp).trans h
theorem FBox.alloc {g : Nat} {f : Value} (h : FBox w g f) (o : Obj) : FBox (w.alloc o) g f := (Below.heap_alloc _ _ _ h.lt).trans h
theorem HBox.alloc {g : Nat} {f : Value} (h : HBox w g f) (o : Obj) : HBox (w.alloc o) g f := (Below.heap_alloc _ _ _ h.lt).trans h
theorem FBox.new (w : World) (f : Value) : FBox (w.alloc (.cells #[f] 1)) w.heap.size f := heap_alloc_new w _
theorem HBox.new (w : World) (f : Value) : HBox (w.alloc (.cells #[f] 75)) w.heap.size f := heap_alloc_new w _
end

theorem sz_cut {s : Bs} {p c i : Nat} (h : i < s.sz) : i < (s.cut p c).sz := h
theorem sz_ins {s : Bs} {p c i : Nat} {K : Int} (h : i < s.sz) : i < (s.insc p c K).sz := Nat.lt_succ_of_lt h
theorem sz_mc {s : Bs} {p c i : Nat} (h : i < s.sz) : i < ((s.cut p c).mark c).sz := h
/-- the state, and what was left as it was since w0 -/
def JX (base B nh v : Nat) (kd K : Int) (ad : Nat → Nat) (s : Bs) (lk : Nat → Bool) (hs : Nat → Nat → Value) (hm : Nat → Value) (w0 w : World) : Prop := ST base B nh v kd K ad s lk hs hm w ∧ JP base w0 w
section
variable {base B nh v : Nat} {kd K : Int} {ad : Nat → Nat} {s : Bs} {lk : Nat → Bool} {hs : Nat → Nat → Value} {hm : Nat → Value} {w0 w : World}
theorem JX.start (h : ST base B nh v kd K ad s lk hs hm w) : JX base B nh v kd K ad s lk hs hm w w := ⟨h, JP.refl _ _⟩
theorem JX.alloc (h : JX base B nh v kd K ad s lk hs hm w0 w) (o : Obj) : JX base B nh v kd K ad s lk hs hm w0 (w.alloc o) := ⟨h.1.alloc o, h.2.alloc h.1.js.szb o⟩
theorem JX.fld (h : JX base B nh v kd K ad s lk hs hm w0 w) {i : Nat} (hi : i < 9) (h3 : 3 ≤ i) (x : Value) (hx : x.oneCell' = true := by rfl) : JX base B nh v kd K ad s lk hs (upd hm i x) w0 (w.setCell ⟨B, v * 9 + i, none⟩ x) := ⟨h.1.fld hi h3 x hx, h.2.trans (h.1.js.jp_fld _ _)⟩
theorem JX.fset (h : JX base B nh v kd K ad s lk hs hm w0 w) {g : Nat} (hz : w0.heap.size ≤ g) (h0 : base ≤ w0.heap.size) {f : Value} (hg : FBox w g f) (u : Value) : JX base B nh v kd K ad s lk hs hm w0 (w.setCell ⟨g, 0, none⟩ u) :=
  ⟨h.1.fset (by omega) hg u, h.2.setNew (p := ⟨g, 0, none⟩) (by show base ≤ g; omega) hz u⟩
end
theorem FBox.newz (w : World) (f : Value) {z : Nat} (hz : w.heap.size = z) : FBox (w.alloc (.cells #[f] 1)) z f := by rw [← hz]; exact FBox.new w f
theorem HBox.newz (w : World) (f : Value) {z : Nat} (hz : w.heap.size = z) : HBox (w.alloc (.cells #[f] 75)) z f := by rw [← hz]; exact HBox.new w f

/- hand over hand -/
abbrev fO1 (hb lb : Nat) : Value := .func (.func 43) #[] #[jp hb, jp lb]
abbrev fO2 (hb ob : Nat) : Value := .func (.func 46) #[] #[jp hb, jp ob]
abbrev fO3 (hb lb : Nat) : Value := .func (.func 47) #[] #[jp hb, jp lb]
structure EnvO (w : World) (P : Value) (hb lb ob : Nat) : Prop where
  h : HBox w hb P
  l : FBox w lb (fO2 hb ob)
  o : FBox w ob (fO3 hb lb)
theorem EnvO.keep {base : Nat} {w w' : World} {P : Value} {hb lb ob : Nat} (h : EnvO w P hb lb ob) (hp : JP base w w') : EnvO w' P hb lb ob := ⟨h.h.keep hp, h.l.keep hp, h.o.keep hp⟩
/- looked at twice -/
abbrev fL1 (hb wb : Nat) : Value := .func (.func 56) #[] #[jp hb, jp wb]
abbrev fL2 (hb lb : Nat) : Value := .func (.func 57) #[] #[jp hb, jp lb]
abbrev fL3 (hb ob : Nat) : Value := .func (.func 59) #[] #[jp hb, jp ob]
abbrev fL4 (hb ub : Nat) : Value := .func (.func 60) #[] #[jp hb, jp ub]
abbrev fL5 (hb : Nat) : Value := .func (.func 63) #[] #[jp hb]
structure EnvL (w : World) (P : Value) (hb wb lb ob ub : Nat) : Prop where
  h : HBox w hb P
  k : FBox w wb (fL2 hb lb)
  l : FBox w lb (fL3 hb ob)
  o : FBox w ob (fL4 hb ub)
  u : FBox w ub (fL5 hb)
theorem EnvL.keep {base : Nat} {w w' : World} {P : Value} {hb wb lb ob ub : Nat} (h : EnvL w P hb wb lb ob ub) (hp : JP base w w') : EnvL w' P hb wb lb ob ub := ⟨h.h.keep hp, h.k.keep hp, h.l.keep hp, h.o.keep hp, h.u.keep hp⟩
/- without locks; a: the function that adds, c: that cuts -/
abbrev fW1 (hb ab cb : Nat) : Value := .func (.func 78) #[] #[jp hb, jp ab, jp cb]
abbrev fW2 (hb lb : Nat) : Value := .func (.func 79) #[] #[jp hb, jp lb]
structure EnvW (w : World) (P : Value) (hb ab cb lb : Nat) (fa fc : Value) : Prop where
  h : HBox w hb P
  a : FBox w ab fa
  c : FBox w cb fc
  l : FBox w lb (fW1 hb ab cb)
theorem EnvW.keep {base : Nat} {w w' : World} {P : Value} {hb ab cb lb : Nat} {fa fc : Value} (h : EnvW w P hb ab cb lb fa fc) (hp : JP base w w') : EnvW w' P hb ab cb lb fa fc := ⟨h.h.keep hp, h.a.keep hp, h.c.keep hp, h.l.keep hp⟩
abbrev fM1 (gb : Nat) : Value := .func (.func 64) #[] #[jp gb]
abbrev fM2 (gb : Nat) : Value := .func (.func 65) #[] #[jp gb]
abbrev fM3 (gb ub : Nat) : Value := .func (.func 66) #[] #[jp gb, jp ub]
abbrev fN1 (gb : Nat) : Value := .func (.func 68) #[] #[jp gb]
abbrev fN2 (gb : Nat) : Value := .func (.func 69) #[] #[jp gb]
structure EnvM (w : World) (P : Value) (gb ub hb ab cb lb : Nat) : Prop where
  g : HBox w gb P
  u : FBox w ub (fM2 gb)
  e : EnvW w P hb ab cb lb (fM1 gb) (fM3 gb ub)
theorem EnvM.keep {base : Nat} {w w' : World} {P : Value} {gb ub hb ab cb lb : Nat} (h : EnvM w P gb ub hb ab cb lb) (hp : JP base w w') : EnvM w' P gb ub hb ab cb lb := ⟨h.g.keep hp, h.u.keep hp, h.e.keep hp⟩
structure EnvN (w : World) (P : Value) (gb hb ab cb lb : Nat) : Prop where
  g : HBox w gb P
  e : EnvW w P hb ab cb lb (fN1 gb) (fN2 gb)
theorem EnvN.keep {base : Nat} {w w' : World} {P : Value} {gb hb ab cb lb : Nat} (h : EnvN w P gb hb ab cb lb) (hp : JP base w w') : EnvN w' P gb hb ab cb lb := ⟨h.g.keep hp, h.e.keep hp⟩

def NXO (w : World) (P : Value) (at_ : Nat) (f : Value) : Prop := ∃ hb lb ob, EnvO w P hb lb ob ∧ f = (if at_ = 0 then fO1 hb lb else if at_ = 1 then fO2 hb ob else fO3 hb lb)
def NXL (w : World) (P : Value) (at_ : Nat) (f : Value) : Prop := ∃ hb wb lb ob ub, EnvL w P hb wb lb ob ub ∧ f = (if at_ = 0 then fL1 hb wb else if at_ ≤ 2 then fL2 hb lb else if at_ = 3 then fL3 hb ob else if at_ = 4 then fL4 hb ub else fL5 hb)
def NXM (w : World) (P : Value) (at_ : Nat) (kd : Int) (f : Value) : Prop := ∃ gb ub hb ab cb lb, EnvM w P gb ub hb ab cb lb ∧ f = (if at_ = 0 then fW2 hb lb else if at_ = 1 then fW1 hb ab cb else if at_ = 2 then (if kd = 1 then fM1 gb else fM3 gb ub) else fM2 gb)
def NXN (w : World) (P : Value) (at_ : Nat) (kd : Int) (f : Value) : Prop := ∃ gb hb ab cb lb, EnvN w P gb hb ab cb lb ∧ f = (if at_ = 0 then fW2 hb lb else if at_ = 1 then fW1 hb ab cb else (if kd = 1 then fN1 gb else fN2 gb))
/-- what a hand does next, by its place in the deed; al: which of the four ways -/
def NX (al : Nat) (w : World) (P : Value) (at_ : Nat) (kd : Int) (f : Value) : Prop :=
  (al = 1 → NXO w P at_ f) ∧ (al = 2 → NXL w P at_ f) ∧ (al = 3 → NXM w P at_ kd f) ∧ (al = 4 → NXN w P at_ kd f)
theorem NX.keep {al base : Nat} {w w' : World} {P : Value} {at_ : Nat} {kd : Int} {f : Value} (h : NX al w P at_ kd f) (hp : JP base w w') : NX al w' P at_ kd f := by
  refine ⟨fun e => ?_, fun e => ?_, fun e => ?_, fun e => ?_⟩
  · obtain ⟨hb, lb, ob, a, b⟩ := h.1 e; exact ⟨hb, lb, ob, a.keep hp, b⟩
  · obtain ⟨hb, wb, lb, ob, ub, a, b⟩ := h.2.1 e; exact ⟨hb, wb, lb, ob, ub, a.keep hp, b⟩
  · obtain ⟨gb, ub, hb, ab, cb, lb, a, b⟩ := h.2.2.1 e; exact ⟨gb, ub, hb, ab, cb, lb, a.keep hp, b⟩
  · obtain ⟨gb, hb, ab, cb, lb, a, b⟩ := h.2.2.2 e; exact ⟨gb, hb, ab, cb, lb, a.keep hp, b⟩
theorem NX.of1 {w : World} {P : Value} {at_ : Nat} {kd : Int} {f : Value} (h : NXO w P at_ f) : NX 1 w P at_ kd f := ⟨fun _ => h, fun e => absurd e (by decide), fun e => absurd e (by decide), fun e => absurd e (by decide)⟩
theorem NX.of2 {w : World} {P : Value} {at_ : Nat} {kd : Int} {f : Value} (h : NXL w P at_ f) : NX 2 w P at_ kd f := ⟨fun e => absurd e (by decide), fun _ => h, fun e => absurd e (by decide), fun e => absurd e (by decide)⟩
theorem NX.of3 {w : World} {P : Value} {at_ : Nat} {kd : Int} {f : Value} (h : NXM w P at_ kd f) : NX 3 w P at_ kd f := ⟨fun e => absurd e (by decide), fun e => absurd e (by decide), fun _ => h, fun e => absurd e (by decide)⟩
theorem NX.of4 {w : World} {P : Value} {at_ : Nat} {kd : Int} {f : Value} (h : NXN w P at_ kd f) : NX 4 w P at_ kd f := ⟨fun e => absurd e (by decide), fun e => absurd e (by decide), fun e => absurd e (by decide), fun _ => h⟩
abbrev fWay (al : Nat) : Value := if al = 1 then .func (.func 24) #[] #[] else if al = 2 then .func (.func 25) #[] #[] else if al = 3 then .func (.func 26) #[] #[] else .func (.func 27) #[] #[]

/-- behind the begin of a deed -/
def RetB (al base B nh v : Nat) (kd K : Int) (ad : Nat → Nat) (s : Bs) (lk : Nat → Bool) (hs : Nat → Nat → Value) (hm : Nat → Value) (w : World) (e : Ending) (w' : World) : Prop :=
  ∃ f, RetJ base B nh v kd K ad s lk hs (upd hm 7 f) w e w' ∧ NX al w' (.pointer (some ⟨B, v * 9, none⟩)) 0 kd f

end Go.Proofs.Ytfmdpmebllepeaa
