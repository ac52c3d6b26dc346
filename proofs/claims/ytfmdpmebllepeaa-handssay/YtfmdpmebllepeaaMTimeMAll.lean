/-
  Joined texts: YtfmdpmebllepeaaMPure, YtfmdpmebllepeaaMMark, YtfmdpmebllepeaaMLock, YtfmdpmebllepeaaMOver, YtfmdpmebllepeaaMAlg, YtfmdpmebllepeaaMHist, YtfmdpmebllepeaaMOrd, YtfmdpmebllepeaaMAll, YtfmdpmebllepeaaMTime, YtfmdpmebllepeaaMRound, YtfmdpmebllepeaaMTimeO, YtfmdpmebllepeaaMTimeM.
-/
import Derived.Test.YtfmdpmebllepeaaSPureAll
/-
  MANY HANDS AT ONE LIST: beads by numbers, who is reached, what an insert, a mark, a cut do to it: plain mathematics. Nothing of the program.
-/
namespace Go.Proofs.Ytfmdpmebllepeaa

def upd {α : Type} (f : Nat → α) (i : Nat) (v : α) : Nat → α := fun j => if j = i then v else f j
theorem upd_same {α : Type} (f : Nat → α) (i : Nat) (v : α) : upd f i v i = v := by simp [upd]
theorem upd_other {α : Type} (f : Nat → α) {i j : Nat} (v : α) (h : j ≠ i) : upd f i v j = f j := by simp [upd, h]

structure Bs where
  key : Nat → Int
  nx : Nat → Nat
  mrk : Nat → Bool
  sz : Nat
  tl : Nat
inductive Rn (nx : Nat → Nat) (tl : Nat) : Nat → Nat → Prop
  | refl {a : Nat} : Rn nx tl a a
  | step {a b : Nat} : a ≠ tl → Rn nx tl (nx a) b → Rn nx tl a b
theorem Rn.next {nx : Nat → Nat} {tl a b : Nat} (h : Rn nx tl a b) (hne : a ≠ b) : a ≠ tl ∧ Rn nx tl (nx a) b := by
  cases h with
  | refl => exact absurd rfl hne
  | step h1 h2 => exact ⟨h1, h2⟩
theorem Rn.trans {nx : Nat → Nat} {tl a b c : Nat} (h : Rn nx tl a b) : Rn nx tl b c → Rn nx tl a c := by
  induction h with
  | refl => exact id
  | step h1 _ ih => exact fun h => .step h1 (ih h)
theorem Rn.snoc {nx : Nat → Nat} {tl a b : Nat} (h : Rn nx tl a b) (hb : b ≠ tl) : Rn nx tl a (nx b) := h.trans (.step hb .refl)
theorem Rn.total {nx : Nat → Nat} {tl a b c : Nat} (h : Rn nx tl a b) : Rn nx tl a c → Rn nx tl b c ∨ Rn nx tl c b := by
  induction h with
  | refl => exact fun h => .inl h
  | @step a b h1 h2 ih =>
    intro hc
    by_cases e : a = c
    · subst e
      exact .inr (.step h1 h2)
    · exact ih (hc.next e).2

structure Cor (s : Bs) : Prop where
  tlt : s.tl < s.sz
  hd : s.tl ≠ 0
  k0 : s.key 0 = -1
  kt : s.key s.tl = 10
  m0 : s.mrk 0 = false
  mt : s.mrk s.tl = false
  nlt : ∀ i, i < s.sz → i ≠ s.tl → s.nx i < s.sz
  up : ∀ i, i < s.sz → i ≠ s.tl → s.key i < s.key (s.nx i)
  all : ∀ i, i < s.sz → s.mrk i = false → Rn s.nx s.tl 0 i
section
variable {s : Bs}
theorem Cor.pos (h : Cor s) : 0 < s.sz := by have := h.tlt; omega
theorem Cor.reach_lt (h : Cor s) {a b : Nat} (hr : Rn s.nx s.tl a b) : a < s.sz → b < s.sz := by
  induction hr with
  | refl => exact id
  | step h1 _ ih => exact fun ha => ih (h.nlt _ ha h1)
theorem Cor.reach_key (h : Cor s) {a b : Nat} (hr : Rn s.nx s.tl a b) : a < s.sz → s.key a ≤ s.key b ∧ (a ≠ b → s.key a < s.key b) := by
  induction hr with
  | refl => exact fun _ => ⟨Int.le_refl _, fun h => absurd rfl h⟩
  | @step a b h1 h2 ih =>
    intro ha
    have h3 := (ih (h.nlt a ha h1)).1
    have h4 := h.up a ha h1
    exact ⟨by omega, fun _ => by omega⟩
theorem Cor.reach_one (h : Cor s) {a b c : Nat} (ha : a < s.sz) (hb : Rn s.nx s.tl a b) (hc : Rn s.nx s.tl a c) (he : s.key b = s.key c) : b = c := by
  apply Classical.byContradiction
  intro hne
  rcases hb.total hc with h1 | h1
  · have := (h.reach_key h1 (h.reach_lt hb ha)).2 hne
    omega
  · have := (h.reach_key h1 (h.reach_lt hc ha)).2 (fun e => hne e.symm)
    omega
theorem Cor.one (h : Cor s) {i j : Nat} (hi : i < s.sz) (hj : j < s.sz) (mi : s.mrk i = false) (mj : s.mrk j = false) (he : s.key i = s.key j) : i = j :=
  h.reach_one h.pos (h.all i hi mi) (h.all j hj mj) he
theorem Cor.gap (h : Cor s) {p : Nat} {K : Int} (hp : p < s.sz) (hpt : p ≠ s.tl) (mp : s.mrk p = false) (h1 : s.key p < K) (h2 : K < s.key (s.nx p)) {i : Nat} (hi : i < s.sz) (mi : s.mrk i = false) : s.key i ≠ K := by
  intro he
  have hrp := h.all p hp mp
  rcases hrp.total (h.all i hi mi) with h3 | h3
  · by_cases e : p = i
    · subst e; omega
    · have := (h.reach_key (h3.next e).2 (h.nlt p hp hpt)).1
      omega
  · have := (h.reach_key h3 hi).1
    omega

def Bs.has (s : Bs) (K : Int) : Prop := ∃ i, i < s.sz ∧ s.key i = K ∧ s.mrk i = false
def Bs.ins (s : Bs) (p : Nat) (K : Int) : Bs := { s with key := upd s.key s.sz K, nx := upd (upd s.nx s.sz (s.nx p)) p s.sz, mrk := upd s.mrk s.sz false, sz := s.sz + 1 }
def Bs.mark (s : Bs) (c : Nat) : Bs := { s with mrk := upd s.mrk c true }
def Bs.cut (s : Bs) (p c : Nat) : Bs := { s with nx := upd s.nx p (s.nx c) }

theorem ins_reach (h : Cor s) {p : Nat} {K : Int} (hp : p < s.sz) (hpt : p ≠ s.tl) {a b : Nat} (hr : Rn s.nx s.tl a b) : a < s.sz → Rn (s.ins p K).nx (s.ins p K).tl a b := by
  have htz : s.sz ≠ s.tl := by have := h.tlt; omega
  induction hr with
  | refl => exact fun _ => .refl
  | @step a b h1 h2 ih =>
    intro ha
    have hn := h.nlt a ha h1
    by_cases e : a = p
    · subst e
      refine .step h1 ?_
      have e1 : (s.ins a K).nx a = s.sz := upd_same _ _ _
      have e2 : (s.ins a K).nx s.sz = s.nx a := by
        show upd (upd s.nx s.sz (s.nx a)) a s.sz s.sz = s.nx a
        rw [upd_other _ _ (by omega), upd_same]
      rw [e1]
      refine .step htz ?_
      rw [e2]
      exact ih hn
    · refine .step h1 ?_
      have e1 : (s.ins p K).nx a = s.nx a := by
        show upd (upd s.nx s.sz (s.nx p)) p s.sz a = s.nx a
        rw [upd_other _ _ e, upd_other _ _ (by omega)]
      rw [e1]
      exact ih hn
theorem Cor.ins (h : Cor s) {p : Nat} {K : Int} (hp : p < s.sz) (hpt : p ≠ s.tl) (mp : s.mrk p = false) (h1 : s.key p < K) (h2 : K < s.key (s.nx p)) : Cor (s.ins p K) := by
  have htl := h.tlt
  have hps := h.pos
  have hnp := h.nlt p hp hpt
  have kO : ∀ i, i < s.sz → (s.ins p K).key i = s.key i := fun i hi => upd_other _ _ (by omega)
  have kN : (s.ins p K).key s.sz = K := upd_same _ _ _
  have mO : ∀ i, i < s.sz → (s.ins p K).mrk i = s.mrk i := fun i hi => upd_other _ _ (by omega)
  have nP : (s.ins p K).nx p = s.sz := upd_same _ _ _
  have nN : (s.ins p K).nx s.sz = s.nx p := by
    show upd (upd s.nx s.sz (s.nx p)) p s.sz s.sz = s.nx p
    rw [upd_other _ _ (by omega), upd_same]
  have nO : ∀ i, i < s.sz → i ≠ p → (s.ins p K).nx i = s.nx i := fun i hi hne => by
    show upd (upd s.nx s.sz (s.nx p)) p s.sz i = s.nx i
    rw [upd_other _ _ hne, upd_other _ _ (by omega)]
  refine ⟨by show s.tl < s.sz + 1; omega, h.hd, by rw [kO 0 hps]; exact h.k0, by show (s.ins p K).key s.tl = 10; rw [kO _ htl]; exact h.kt, by rw [mO 0 hps]; exact h.m0, by show (s.ins p K).mrk s.tl = false; rw [mO _ htl]; exact h.mt, fun i hi hne => ?_, fun i hi hne => ?_, fun i hi hm => ?_⟩
  · show (s.ins p K).nx i < s.sz + 1
    have hi' : i < s.sz + 1 := hi
    by_cases e : i = s.sz
    · rw [e, nN]; omega
    · by_cases e2 : i = p
      · rw [e2, nP]; omega
      · rw [nO i (by omega) e2]
        have := h.nlt i (by omega) hne
        omega
  · have hi' : i < s.sz + 1 := hi
    by_cases e : i = s.sz
    · rw [e, nN, kN, kO _ hnp]; exact h2
    · by_cases e2 : i = p
      · rw [e2, nP, kN, kO p hp]; exact h1
      · rw [nO i (by omega) e2, kO i (by omega), kO _ (h.nlt i (by omega) hne)]
        exact h.up i (by omega) hne
  · have hi' : i < s.sz + 1 := hi
    by_cases e : i = s.sz
    · subst e
      have hr := ins_reach h (K := K) hp hpt (h.all p hp mp) hps
      have := hr.snoc (show p ≠ (s.ins p K).tl from hpt)
      rw [nP] at this
      exact this
    · rw [mO i (by omega)] at hm
      exact ins_reach h hp hpt (h.all i (by omega) hm) hps
theorem ins_has (h : Cor s) {p : Nat} {K : Int} (x : Int) : (s.ins p K).has x ↔ x = K ∨ s.has x := by
  have kO : ∀ i, i < s.sz → (s.ins p K).key i = s.key i := fun i hi => upd_other _ _ (by omega)
  have mO : ∀ i, i < s.sz → (s.ins p K).mrk i = s.mrk i := fun i hi => upd_other _ _ (by omega)
  constructor
  · rintro ⟨i, hi, hk, hm⟩
    have hi' : i < s.sz + 1 := hi
    by_cases e : i = s.sz
    · subst e
      left
      rw [← hk]
      exact upd_same _ _ _
    · right
      rw [kO i (by omega)] at hk
      rw [mO i (by omega)] at hm
      exact ⟨i, by omega, hk, hm⟩
  · rintro (rfl | ⟨i, hi, hk, hm⟩)
    · exact ⟨s.sz, Nat.lt_succ_self _, upd_same _ _ _, upd_same _ _ _⟩
    · exact ⟨i, Nat.lt_succ_of_lt hi, by rw [kO i hi]; exact hk, by rw [mO i hi]; exact hm⟩

theorem Cor.mark (h : Cor s) {c : Nat} (hc0 : c ≠ 0) (hct : c ≠ s.tl) : Cor (s.mark c) := by
  refine ⟨h.tlt, h.hd, h.k0, h.kt, ?_, ?_, h.nlt, h.up, fun i hi hm => ?_⟩
  · show upd s.mrk c true 0 = false
    rw [upd_other _ _ (fun e => hc0 e.symm)]
    exact h.m0
  · show upd s.mrk c true s.tl = false
    rw [upd_other _ _ (fun e => hct e.symm)]
    exact h.mt
  · have hm' : upd s.mrk c true i = false := hm
    by_cases e : i = c
    · subst e
      rw [upd_same] at hm'
      cases hm'
    · rw [upd_other _ _ e] at hm'
      exact h.all i hi hm'
theorem mark_has (h : Cor s) {c : Nat} (hc : c < s.sz) (mc : s.mrk c = false) (x : Int) : (s.mark c).has x ↔ s.has x ∧ x ≠ s.key c := by
  constructor
  · rintro ⟨i, hi, hk, hm⟩
    have hm' : upd s.mrk c true i = false := hm
    have hne : i ≠ c := fun e => by subst e; rw [upd_same] at hm'; cases hm'
    rw [upd_other _ _ hne] at hm'
    refine ⟨⟨i, hi, hk, hm'⟩, fun e => hne ?_⟩
    exact h.one hi hc hm' mc (by rw [← e]; exact hk)
  · rintro ⟨⟨i, hi, hk, hm⟩, hne⟩
    refine ⟨i, hi, hk, ?_⟩
    show upd s.mrk c true i = false
    rw [upd_other _ _ (fun e => hne (by rw [← e]; exact hk.symm))]
    exact hm

theorem cut_reach (h : Cor s) {p c : Nat} (hp : p < s.sz) (hpt : p ≠ s.tl) (hn : s.nx p = c) (hct : c ≠ s.tl) {a b : Nat} (hr : Rn s.nx s.tl a b) : a < s.sz → b ≠ c → Rn (s.cut p c).nx (s.cut p c).tl a b := by
  have hc : c < s.sz := by rw [← hn]; exact h.nlt p hp hpt
  have hpc : c ≠ p := fun e => by have := h.up p hp hpt; rw [hn, e] at this; omega
  induction hr with
  | refl => exact fun _ _ => .refl
  | @step a b h1 h2 ih =>
    intro ha hb
    have hna := h.nlt a ha h1
    have i1 := ih hna hb
    by_cases e : a = p
    · subst e
      rw [hn] at i1
      have i2 := (i1.next (fun e => hb e.symm)).2
      have e2 : (s.cut a c).nx c = s.nx c := upd_other _ _ hpc
      have e1 : (s.cut a c).nx a = s.nx c := upd_same _ _ _
      rw [e2] at i2
      refine .step h1 ?_
      rw [e1]
      exact i2
    · refine .step h1 ?_
      have e1 : (s.cut p c).nx a = s.nx a := upd_other _ _ e
      rw [e1]
      exact i1
theorem Cor.cut (h : Cor s) {p c : Nat} (hp : p < s.sz) (hpt : p ≠ s.tl) (hn : s.nx p = c) (mc : s.mrk c = true) : Cor (s.cut p c) := by
  have hc : c < s.sz := by rw [← hn]; exact h.nlt p hp hpt
  have hct : c ≠ s.tl := fun e => by rw [e, h.mt] at mc; cases mc
  refine ⟨h.tlt, h.hd, h.k0, h.kt, h.m0, h.mt, fun i hi hne => ?_, fun i hi hne => ?_, fun i hi hm => ?_⟩
  · show upd s.nx p (s.nx c) i < s.sz
    by_cases e : i = p
    · rw [e, upd_same]; exact h.nlt c hc hct
    · rw [upd_other _ _ e]; exact h.nlt i hi hne
  · show s.key i < s.key (upd s.nx p (s.nx c) i)
    by_cases e : i = p
    · rw [e, upd_same]
      have a1 := h.up p hp hpt
      have a2 := h.up c hc hct
      rw [hn] at a1
      omega
    · rw [upd_other _ _ e]; exact h.up i hi hne
  · have hne : i ≠ c := fun e => by
      have hm' : s.mrk i = false := hm
      rw [e, mc] at hm'
      cases hm'
    exact cut_reach h hp hpt hn hct (h.all i hi hm) h.pos hne
def Wit (s : Bs) (c : Nat) (K : Int) : Prop := ∃ n, n < s.sz ∧ s.key n = K ∧ s.mrk n = false ∧ Rn s.nx s.tl c n
theorem Wit.first (h : Cor s) {K : Int} (hK : 0 ≤ K) (hs : s.has K) : Wit s (s.nx 0) K := by
  obtain ⟨n, hn, hk, hm⟩ := hs
  have h0 : 0 ≠ n := fun e => by rw [← e, h.k0] at hk; omega
  exact ⟨n, hn, hk, hm, ((h.all n hn hm).next h0).2⟩
theorem Wit.on {c : Nat} {K : Int} (hw : Wit s c K) (hk : s.key c ≠ K) : Wit s (s.nx c) K := by
  obtain ⟨n, hn, h1, h2, h3⟩ := hw
  exact ⟨n, hn, h1, h2, (h3.next (fun e => hk (by rw [e]; exact h1))).2⟩
theorem Wit.past {c : Nat} {K : Int} (hw : Wit s c K) (hm : s.mrk c = true) : Wit s (s.nx c) K := by
  obtain ⟨n, hn, h1, h2, h3⟩ := hw
  exact ⟨n, hn, h1, h2, (h3.next (fun e => by rw [e, h2] at hm; cases hm)).2⟩
theorem Wit.found (h : Cor s) {c : Nat} {K : Int} (hw : Wit s c K) (hc : c < s.sz) (hk : K ≤ s.key c) : s.key c = K ∧ s.mrk c = false := by
  obtain ⟨n, hn, h1, h2, h3⟩ := hw
  have := h.reach_key h3 hc
  by_cases e : c = n
  · subst e; exact ⟨h1, h2⟩
  · have := this.2 e
    omega
theorem Wit.ins (h : Cor s) {p c : Nat} {K x : Int} (hp : p < s.sz) (hpt : p ≠ s.tl) (hc : c < s.sz) (hw : Wit s c x) : Wit (s.ins p K) c x := by
  obtain ⟨n, hn, h1, h2, h3⟩ := hw
  refine ⟨n, Nat.lt_succ_of_lt hn, ?_, ?_, ins_reach h hp hpt h3 hc⟩
  · show upd s.key s.sz K n = x
    rw [upd_other _ _ (by omega)]
    exact h1
  · show upd s.mrk s.sz false n = false
    rw [upd_other _ _ (by omega)]
    exact h2
theorem Wit.cut (h : Cor s) {p c' c : Nat} {x : Int} (hp : p < s.sz) (hpt : p ≠ s.tl) (hn : s.nx p = c') (mc : s.mrk c' = true) (hc : c < s.sz) (hw : Wit s c x) : Wit (s.cut p c') c x := by
  obtain ⟨n, hn', h1, h2, h3⟩ := hw
  have hct : c' ≠ s.tl := fun e => by rw [e, h.mt] at mc; cases mc
  exact ⟨n, hn', h1, h2, cut_reach h hp hpt hn hct h3 hc (fun e => by rw [e, mc] at h2; cases h2)⟩
theorem Wit.mark (h : Cor s) {c' c : Nat} {x : Int} (hc' : c' < s.sz) (mc : s.mrk c' = false) (hw : Wit s c x) : Wit (s.mark c') c x ∨ ¬ (s.mark c').has x := by
  obtain ⟨n, hn, h1, h2, h3⟩ := hw
  by_cases e : n = c'
  · subst e
    right
    rw [mark_has h hc' mc]
    exact fun hh => hh.2 h1.symm
  · left
    refine ⟨n, hn, h1, ?_, h3⟩
    show upd s.mrk c' true n = false
    rw [upd_other _ _ e]
    exact h2
end

end Go.Proofs.Ytfmdpmebllepeaa

/-
  THOSE THAT MARK, THOSE THAT LOOK TWICE, THOSE THAT GO HAND OVER HAND: one step each, what stays, what it tells: plain mathematics. Nothing of the program.
-/
namespace Go.Proofs.Ytfmdpmebllepeaa

structure Hd where
  at_ : Nat
  p : Nat
  c : Nat
  is_ : Bool
abbrev hd0 : Hd := ⟨0, 0, 0, false⟩
inductive Eff
  | none
  | add (K : Int)
  | del (K : Int)
def Eff.on (e : Eff) (S : Int → Prop) (x : Int) : Prop := match e with
  | .none => S x
  | .add K => x = K ∨ S x
  | .del K => S x ∧ x ≠ K
structure Grow (s s' : Bs) : Prop where
  sz : s.sz ≤ s'.sz
  tl : s'.tl = s.tl
  key : ∀ i, i < s.sz → s'.key i = s.key i
  mrk : ∀ i, i < s.sz → s.mrk i = true → s'.mrk i = true
structure Stp (s s' : Bs) (e : Eff) : Prop where
  cor : Cor s'
  grow : Grow s s'
  wit : ∀ c x, c < s.sz → Wit s c x → Wit s' c x ∨ ¬ s'.has x
  has : ∀ x, s'.has x ↔ e.on s.has x
theorem Stp.none {s : Bs} (h : Cor s) : Stp s s .none := ⟨h, ⟨Nat.le_refl _, rfl, fun _ _ => rfl, fun _ _ h => h⟩, fun _ _ _ h => .inl h, fun _ => Iff.rfl⟩
theorem Stp.ins {s : Bs} (h : Cor s) {p : Nat} {K : Int} (hp : p < s.sz) (hpt : p ≠ s.tl) (mp : s.mrk p = false) (h1 : s.key p < K) (h2 : K < s.key (s.nx p)) : Stp s (s.ins p K) (.add K) :=
  ⟨h.ins hp hpt mp h1 h2, ⟨Nat.le_succ _, rfl, fun i hi => upd_other _ _ (by omega), fun i hi hm => by show upd s.mrk s.sz false i = true; rw [upd_other _ _ (by omega)]; exact hm⟩, fun c x hc hw => .inl (hw.ins h hp hpt hc), fun x => ins_has h x⟩
theorem Stp.mark {s : Bs} (h : Cor s) {c : Nat} {K : Int} (hc : c < s.sz) (mc : s.mrk c = false) (hk : s.key c = K) (hK : 0 ≤ K ∧ K ≤ 9) : Stp s (s.mark c) (.del K) := by
  have hc0 : c ≠ 0 := fun e => by rw [e, h.k0] at hk; omega
  have hct : c ≠ s.tl := fun e => by rw [e, h.kt] at hk; omega
  refine ⟨h.mark hc0 hct, ⟨Nat.le_refl _, rfl, fun _ _ => rfl, fun i _ hm => ?_⟩, fun c' x _ hw => hw.mark h hc mc, fun x => ?_⟩
  · show upd s.mrk c true i = true
    by_cases e : i = c
    · rw [e, upd_same]
    · rw [upd_other _ _ e]; exact hm
  · rw [mark_has h hc mc x, hk]
    exact Iff.rfl
theorem Stp.cut {s : Bs} (h : Cor s) {p c : Nat} (hp : p < s.sz) (hpt : p ≠ s.tl) (hn : s.nx p = c) (mc : s.mrk c = true) : Stp s (s.cut p c) .none :=
  ⟨h.cut hp hpt hn mc, ⟨Nat.le_refl _, rfl, fun _ _ => rfl, fun _ _ h => h⟩, fun c' x hc' hw => .inl (hw.cut h hp hpt hn mc hc'), fun _ => Iff.rfl⟩

def Ans0 (kd : Int) (is_ : Bool) (has : Prop) : Prop := (kd = 3 ∧ (is_ = true ↔ has)) ∨ (kd = 1 ∧ is_ = false ∧ has) ∨ (kd = 2 ∧ is_ = false ∧ ¬ has)

def clean (s : Bs) (h : Hd) : Prop := s.mrk h.p = false ∧ s.nx h.p = h.c
instance (s : Bs) (h : Hd) : Decidable (clean s h) := inferInstanceAs (Decidable (_ ∧ _))
structure Res where
  s : Bs
  h : Hd
  e : Eff
  over : Bool
def markS (s : Bs) (h : Hd) (kd K : Int) : Res :=
  if h.at_ = 0 then ⟨s, ⟨1, 0, s.nx 0, h.is_⟩, .none, false⟩
  else if h.at_ = 1 then
    (if s.mrk h.c = true ∧ kd ≠ 3 then (if clean s h then ⟨s.cut h.p h.c, ⟨1, h.p, s.nx h.c, h.is_⟩, .none, false⟩ else ⟨s, ⟨0, h.p, h.c, h.is_⟩, .none, false⟩)
     else if s.key h.c < K then ⟨s, ⟨1, h.c, s.nx h.c, h.is_⟩, .none, false⟩
     else if kd = 3 then ⟨s, ⟨1, h.p, h.c, decide (s.key h.c = K) && !s.mrk h.c⟩, .none, true⟩
     else if (kd = 1 ∧ s.key h.c = K) ∨ (kd = 2 ∧ s.key h.c ≠ K) then ⟨s, ⟨1, h.p, h.c, false⟩, .none, true⟩
     else ⟨s, ⟨2, h.p, h.c, h.is_⟩, .none, false⟩)
  else if h.at_ = 2 then
    (if kd = 1 ∧ clean s h then ⟨s.ins h.p K, ⟨2, h.p, h.c, true⟩, .add K, true⟩
     else if kd = 2 ∧ s.mrk h.c = false then ⟨s.mark h.c, ⟨3, h.p, h.c, true⟩, .del K, false⟩
     else ⟨s, ⟨0, h.p, h.c, h.is_⟩, .none, false⟩)
  else (if clean s h then ⟨s.cut h.p h.c, h, .none, true⟩ else ⟨s, h, .none, true⟩)
structure MI (s : Bs) (h : Hd) (kd K : Int) (g : Prop) : Prop where
  le : h.at_ ≤ 3
  pc : h.at_ ≠ 0 → h.p < s.sz ∧ h.c < s.sz ∧ s.key h.p < K
  one : h.at_ = 1 → g ∨ Wit s h.c K
  two : h.at_ = 2 → (kd = 1 ∧ K < s.key h.c) ∨ (kd = 2 ∧ s.key h.c = K)
  three : h.at_ = 3 → kd = 2 ∧ s.key h.c = K ∧ s.mrk h.c = true ∧ h.is_ = true
theorem MI.start (s : Bs) (kd K : Int) (g : Prop) : MI s hd0 kd K g := ⟨Nat.zero_le _, fun h => absurd rfl h, fun h => absurd h (by decide), fun h => absurd h (by decide), fun h => absurd h (by decide)⟩
theorem MI.other {s s' : Bs} {e : Eff} {h : Hd} {kd K : Int} {g g' : Prop} (hm : MI s h kd K g) (hs : Stp s s' e) (hg : g → g') (hg2 : ¬ s'.has K → g') : MI s' h kd K g' := by
  have hG := hs.grow
  refine ⟨hm.le, fun h0 => ?_, fun h1 => ?_, fun h2 => ?_, fun h3 => ?_⟩
  · obtain ⟨a, b, d⟩ := hm.pc h0
    exact ⟨Nat.lt_of_lt_of_le a hG.sz, Nat.lt_of_lt_of_le b hG.sz, by rw [hG.key _ a]; exact d⟩
  · rcases hm.one h1 with h | h
    · exact .inl (hg h)
    · rcases hs.wit _ K (hm.pc (by omega)).2.1 h with h | h
      · exact .inr h
      · exact .inl (hg2 h)
  · rw [hG.key _ (hm.pc (by omega)).2.1]
    exact hm.two h2
  · obtain ⟨a, b, d, e⟩ := hm.three h3
    have hc := (hm.pc (by omega)).2.1
    exact ⟨a, by rw [hG.key _ hc]; exact b, hG.mrk _ hc d, e⟩

def Out (s : Bs) (r : Res) (kd K : Int) (f g : Prop) : Prop :=
  (r.e = .add K ∧ kd = 1 ∧ ¬ s.has K ∧ r.h.is_ = true) ∨ (r.e = .del K ∧ kd = 2 ∧ s.has K ∧ r.h.is_ = true) ∨ (f ∧ r.e = .none ∧ kd = 2 ∧ r.h.is_ = true) ∨ (r.e = .none ∧ Ans0 kd r.h.is_ (s.has K)) ∨ (r.e = .none ∧ g ∧ Ans0 kd r.h.is_ False)
theorem key_tl {s : Bs} (hc : Cor s) {p : Nat} {K : Int} (hK : 0 ≤ K ∧ K ≤ 9) (h : s.key p < K ∨ s.key p = K) : p ≠ s.tl := fun e => by
  rw [e, hc.kt] at h
  omega
theorem MI.own {s : Bs} {h : Hd} {kd K : Int} {g g' : Prop} (hc : Cor s) (hm : MI s h kd K g) (hK : 0 ≤ K ∧ K ≤ 9) (hkd : kd = 1 ∨ kd = 2 ∨ kd = 3) (hg : g → g') (hg2 : ¬ (markS s h kd K).s.has K → g') :
    Stp s (markS s h kd K).s (markS s h kd K).e ∧ ((markS s h kd K).over = false → MI (markS s h kd K).s (markS s h kd K).h kd K g' ∧ ((markS s h kd K).e = .none ∧ ((markS s h kd K).h.at_ = 3 → h.at_ = 3) ∨ (markS s h kd K).e = .del K ∧ kd = 2 ∧ s.has K ∧ (markS s h kd K).h.at_ = 3)) ∧ ((markS s h kd K).over = true → Out s (markS s h kd K) kd K (h.at_ = 3) g) := by
  have hat := hm.le
  rcases (show h.at_ = 0 ∨ h.at_ = 1 ∨ h.at_ = 2 ∨ h.at_ = 3 by omega) with h0 | h0 | h0 | h0
  · have e : markS s h kd K = ⟨s, ⟨1, 0, s.nx 0, h.is_⟩, .none, false⟩ := by unfold markS; rw [if_pos h0]
    rw [e] at hg2 ⊢
    refine ⟨Stp.none hc, fun _ => ⟨⟨by simp, fun _ => ⟨hc.pos, hc.nlt 0 hc.pos (fun e => hc.hd e.symm), by rw [hc.k0]; omega⟩, fun _ => ?_, fun h => by simp at h, fun h => by simp at h⟩, .inl ⟨rfl, fun h => by simp at h⟩⟩, fun h => by cases h⟩
    by_cases hh : s.has K
    · exact .inr (Wit.first hc hK.1 hh)
    · exact .inl (hg2 hh)
  · obtain ⟨p1, p2, p3⟩ := hm.pc (by omega)
    have hpt : h.p ≠ s.tl := key_tl hc hK (.inl p3)
    have hw := hm.one h0
    have e0 : markS s h kd K = if s.mrk h.c = true ∧ kd ≠ 3 then (if clean s h then ⟨s.cut h.p h.c, ⟨1, h.p, s.nx h.c, h.is_⟩, .none, false⟩ else ⟨s, ⟨0, h.p, h.c, h.is_⟩, .none, false⟩)
     else if s.key h.c < K then ⟨s, ⟨1, h.c, s.nx h.c, h.is_⟩, .none, false⟩
     else if kd = 3 then ⟨s, ⟨1, h.p, h.c, decide (s.key h.c = K) && !s.mrk h.c⟩, .none, true⟩
     else if (kd = 1 ∧ s.key h.c = K) ∨ (kd = 2 ∧ s.key h.c ≠ K) then ⟨s, ⟨1, h.p, h.c, false⟩, .none, true⟩
     else ⟨s, ⟨2, h.p, h.c, h.is_⟩, .none, false⟩ := by unfold markS; rw [if_neg (by omega), if_pos h0]
    by_cases c1 : s.mrk h.c = true ∧ kd ≠ 3
    · by_cases c2 : clean s h
      · have e : markS s h kd K = ⟨s.cut h.p h.c, ⟨1, h.p, s.nx h.c, h.is_⟩, .none, false⟩ := by rw [e0, if_pos c1, if_pos c2]
        rw [e] at hg2 ⊢
        have hct : h.c ≠ s.tl := fun e => by have := c1.1; rw [e, hc.mt] at this; cases this
        have hst := Stp.cut hc p1 hpt c2.2 c1.1
        have hcn : s.nx h.c < s.sz := hc.nlt _ p2 hct
        refine ⟨hst, fun _ => ⟨⟨by simp, fun _ => ⟨p1, hcn, p3⟩, fun _ => ?_, fun h => by simp at h, fun h => by simp at h⟩, .inl ⟨rfl, fun h => by simp at h⟩⟩, fun h => by cases h⟩
        rcases hw with hw | hw
        · exact .inl (hg hw)
        · rcases hst.wit _ K hcn (hw.past c1.1) with h | h
          · exact .inr h
          · exact .inl (hg2 h)
      · have e : markS s h kd K = ⟨s, ⟨0, h.p, h.c, h.is_⟩, .none, false⟩ := by rw [e0, if_pos c1, if_neg c2]
        rw [e]
        exact ⟨Stp.none hc, fun _ => ⟨⟨by simp, fun h => absurd rfl h, fun h => by simp at h, fun h => by simp at h, fun h => by simp at h⟩, .inl ⟨rfl, fun h => by simp at h⟩⟩, fun h => by cases h⟩
    · by_cases c2 : s.key h.c < K
      · have e : markS s h kd K = ⟨s, ⟨1, h.c, s.nx h.c, h.is_⟩, .none, false⟩ := by rw [e0, if_neg c1, if_pos c2]
        rw [e]
        have hct : h.c ≠ s.tl := key_tl hc hK (.inl c2)
        refine ⟨Stp.none hc, fun _ => ⟨⟨by simp, fun _ => ⟨p2, hc.nlt _ p2 hct, c2⟩, fun _ => ?_, fun h => by simp at h, fun h => by simp at h⟩, .inl ⟨rfl, fun h => by simp at h⟩⟩, fun h => by cases h⟩
        rcases hw with hw | hw
        · exact .inl (hg hw)
        · exact .inr (hw.on (by omega))
      · have found : g ∨ (s.key h.c = K ∧ s.mrk h.c = false) := by
          rcases hw with hw | hw
          · exact .inl hw
          · exact .inr (hw.found hc p2 (by omega))
        by_cases c3 : kd = 3
        · have e : markS s h kd K = ⟨s, ⟨1, h.p, h.c, decide (s.key h.c = K) && !s.mrk h.c⟩, .none, true⟩ := by rw [e0, if_neg c1, if_neg c2, if_pos c3]
          rw [e]
          refine ⟨Stp.none hc, fun h => (by cases h), fun _ => ?_⟩
          by_cases c4 : s.key h.c = K ∧ s.mrk h.c = false
          · refine .inr (.inr (.inr (.inl ⟨rfl, .inl ⟨c3, ?_⟩⟩)))
            have : (decide (s.key h.c = K) && !s.mrk h.c) = true := by simp [c4.1, c4.2]
            exact ⟨fun _ => ⟨h.c, p2, c4.1, c4.2⟩, fun _ => this⟩
          · rcases found with hgg | hf
            · refine .inr (.inr (.inr (.inr ⟨rfl, hgg, .inl ⟨c3, ?_⟩⟩)))
              have : (decide (s.key h.c = K) && !s.mrk h.c) = false := by
                cases hb : s.mrk h.c with
                | true => simp
                | false =>
                  have hne : s.key h.c ≠ K := fun e => c4 ⟨e, hb⟩
                  simp [hne]
              show (decide (s.key h.c = K) && !s.mrk h.c) = true ↔ False
              rw [this]
              simp
            · exact absurd hf c4
        · have mc : s.mrk h.c = false := by
            cases hb : s.mrk h.c with
            | true => exact absurd ⟨hb, c3⟩ c1
            | false => rfl
          by_cases c4 : (kd = 1 ∧ s.key h.c = K) ∨ (kd = 2 ∧ s.key h.c ≠ K)
          · have e : markS s h kd K = ⟨s, ⟨1, h.p, h.c, false⟩, .none, true⟩ := by rw [e0, if_neg c1, if_neg c2, if_neg c3, if_pos c4]
            rw [e]
            refine ⟨Stp.none hc, fun h => (by cases h), fun _ => ?_⟩
            rcases c4 with ⟨k1, k2⟩ | ⟨k1, k2⟩
            · exact .inr (.inr (.inr (.inl ⟨rfl, .inr (.inl ⟨k1, rfl, h.c, p2, k2, mc⟩)⟩)))
            · rcases found with hgg | hf
              · exact .inr (.inr (.inr (.inr ⟨rfl, hgg, .inr (.inr ⟨k1, rfl, fun h => h⟩)⟩)))
              · exact absurd hf.1 k2
          · have e : markS s h kd K = ⟨s, ⟨2, h.p, h.c, h.is_⟩, .none, false⟩ := by rw [e0, if_neg c1, if_neg c2, if_neg c3, if_neg c4]
            rw [e]
            refine ⟨Stp.none hc, fun _ => ⟨⟨by simp, fun _ => ⟨p1, p2, p3⟩, fun h => by simp at h, fun _ => ?_, fun h => by simp at h⟩, .inl ⟨rfl, fun h => by simp at h⟩⟩, fun h => by cases h⟩
            show (kd = 1 ∧ K < s.key h.c) ∨ (kd = 2 ∧ s.key h.c = K)
            rcases hkd with k | k | k
            · exact .inl ⟨k, by have : s.key h.c ≠ K := fun e => c4 (.inl ⟨k, e⟩); omega⟩
            · exact .inr ⟨k, Classical.byContradiction fun e => c4 (.inr ⟨k, e⟩)⟩
            · exact absurd k c3
  · obtain ⟨p1, p2, p3⟩ := hm.pc (by omega)
    have hpt : h.p ≠ s.tl := key_tl hc hK (.inl p3)
    have h2 := hm.two h0
    have e0 : markS s h kd K = if kd = 1 ∧ clean s h then ⟨s.ins h.p K, ⟨2, h.p, h.c, true⟩, .add K, true⟩
     else if kd = 2 ∧ s.mrk h.c = false then ⟨s.mark h.c, ⟨3, h.p, h.c, true⟩, .del K, false⟩
     else ⟨s, ⟨0, h.p, h.c, h.is_⟩, .none, false⟩ := by unfold markS; rw [if_neg (by omega), if_neg (by omega), if_pos h0]
    by_cases c1 : kd = 1 ∧ clean s h
    · have e : markS s h kd K = ⟨s.ins h.p K, ⟨2, h.p, h.c, true⟩, .add K, true⟩ := by rw [e0, if_pos c1]
      rw [e]
      have hkc : K < s.key (s.nx h.p) := by
        rw [c1.2.2]
        rcases h2 with h | h
        · exact h.2
        · omega
      refine ⟨Stp.ins hc p1 hpt c1.2.1 p3 hkc, fun h => (by cases h), fun _ => .inl ⟨rfl, c1.1, ?_, rfl⟩⟩
      rintro ⟨i, hi, hk, hmi⟩
      exact hc.gap p1 hpt c1.2.1 p3 hkc hi hmi hk
    · by_cases c2 : kd = 2 ∧ s.mrk h.c = false
      · have e : markS s h kd K = ⟨s.mark h.c, ⟨3, h.p, h.c, true⟩, .del K, false⟩ := by rw [e0, if_neg c1, if_pos c2]
        rw [e] at hg2 ⊢
        have hk : s.key h.c = K := by
          rcases h2 with h | h
          · omega
          · exact h.2
        have hst := Stp.mark hc p2 c2.2 hk hK
        refine ⟨hst, fun _ => ⟨⟨by simp, fun _ => ⟨p1, p2, p3⟩, fun h => by simp at h, fun h => by simp at h, fun _ => ⟨c2.1, hk, ?_, rfl⟩⟩, .inr ⟨rfl, c2.1, ⟨h.c, p2, hk, c2.2⟩, rfl⟩⟩, fun h => by cases h⟩
        show upd s.mrk h.c true h.c = true
        rw [upd_same]
      · have e : markS s h kd K = ⟨s, ⟨0, h.p, h.c, h.is_⟩, .none, false⟩ := by rw [e0, if_neg c1, if_neg c2]
        rw [e]
        exact ⟨Stp.none hc, fun _ => ⟨⟨by simp, fun h => absurd rfl h, fun h => by simp at h, fun h => by simp at h, fun h => by simp at h⟩, .inl ⟨rfl, fun h => by simp at h⟩⟩, fun h => by cases h⟩
  · obtain ⟨p1, p2, p3⟩ := hm.pc (by omega)
    have hpt : h.p ≠ s.tl := key_tl hc hK (.inl p3)
    obtain ⟨k1, k2, k3, k4⟩ := hm.three h0
    have e0 : markS s h kd K = if clean s h then ⟨s.cut h.p h.c, h, .none, true⟩ else ⟨s, h, .none, true⟩ := by unfold markS; rw [if_neg (by omega), if_neg (by omega), if_neg (by omega)]
    by_cases c1 : clean s h
    · have e : markS s h kd K = ⟨s.cut h.p h.c, h, .none, true⟩ := by rw [e0, if_pos c1]
      rw [e]
      exact ⟨Stp.cut hc p1 hpt c1.2 k3, fun h => (by cases h), fun _ => .inr (.inr (.inl ⟨h0, rfl, k1, k4⟩))⟩
    · have e : markS s h kd K = ⟨s, h, .none, true⟩ := by rw [e0, if_neg c1]
      rw [e]
      exact ⟨Stp.none hc, fun h => (by cases h), fun _ => .inr (.inr (.inl ⟨h0, rfl, k1, k4⟩))⟩

end Go.Proofs.Ytfmdpmebllepeaa

/-
  THOSE THAT LOOK TWICE, THOSE THAT GO HAND OVER HAND: locks, one step each, what stays, what it tells: plain mathematics. Nothing of the program.
-/
namespace Go.Proofs.Ytfmdpmebllepeaa

theorem Stp.then {s s1 s2 : Bs} {e : Eff} (h1 : Stp s s1 e) (h2 : Stp s1 s2 .none) : Stp s s2 e := by
  refine ⟨h2.cor, ⟨Nat.le_trans h1.grow.sz h2.grow.sz, h2.grow.tl.trans h1.grow.tl, fun i hi => ?_, fun i hi hm => ?_⟩, fun c x hc hw => ?_, fun x => (h2.has x).trans (h1.has x)⟩
  · rw [h2.grow.key i (Nat.lt_of_lt_of_le hi h1.grow.sz), h1.grow.key i hi]
  · exact h2.grow.mrk i (Nat.lt_of_lt_of_le hi h1.grow.sz) (h1.grow.mrk i hi hm)
  · have hsame : s2.has x ↔ s1.has x := h2.has x
    rcases h1.wit c x hc hw with h | h
    · exact h2.wit c x (Nat.lt_of_lt_of_le hc h1.grow.sz) h
    · exact .inr (fun hh => h (hsame.1 hh))

structure Rel where
  s : Bs
  lk : Nat → Bool
  h : Hd
  e : Eff
  over : Bool
abbrev Rel.res (r : Rel) : Res := ⟨r.s, r.h, r.e, r.over⟩
def fre (lk : Nat → Bool) (h : Hd) : Nat → Bool := upd (upd lk h.p false) h.c false

def lazyS (s : Bs) (lk : Nat → Bool) (h : Hd) (kd K : Int) : Rel :=
  if h.at_ = 0 then ⟨s, lk, ⟨1, 0, s.nx 0, h.is_⟩, .none, false⟩
  else if h.at_ = 1 then
    (if s.key h.c < K then ⟨s, lk, ⟨1, h.c, s.nx h.c, h.is_⟩, .none, false⟩
     else if kd = 3 then ⟨s, lk, ⟨1, h.p, h.c, decide (s.key h.c = K) && !s.mrk h.c⟩, .none, true⟩
     else if lk h.p = false then ⟨s, upd lk h.p true, ⟨3, h.p, h.c, h.is_⟩, .none, false⟩
     else ⟨s, lk, ⟨2, h.p, h.c, h.is_⟩, .none, false⟩)
  else if h.at_ = 2 then (if lk h.p = false then ⟨s, upd lk h.p true, ⟨3, h.p, h.c, h.is_⟩, .none, false⟩ else ⟨s, lk, h, .none, false⟩)
  else if h.at_ = 3 then (if lk h.c = false then ⟨s, upd lk h.c true, ⟨4, h.p, h.c, h.is_⟩, .none, false⟩ else ⟨s, lk, h, .none, false⟩)
  else if h.at_ = 4 then
    (if s.mrk h.p = true ∨ s.mrk h.c = true ∨ s.nx h.p ≠ h.c then ⟨s, fre lk h, ⟨0, h.p, h.c, h.is_⟩, .none, false⟩
     else if kd = 2 then
       (if s.key h.c = K then ⟨s.mark h.c, lk, ⟨5, h.p, h.c, true⟩, .del K, false⟩ else ⟨s, fre lk h, ⟨4, h.p, h.c, false⟩, .none, true⟩)
     else (if s.key h.c = K then ⟨s, fre lk h, ⟨4, h.p, h.c, false⟩, .none, true⟩ else ⟨s.ins h.p K, fre lk h, ⟨4, h.p, h.c, true⟩, .add K, true⟩))
  else ⟨s.cut h.p h.c, fre lk h, h, .none, true⟩
def lazyO (h : Hd) (i : Nat) : Prop := (h.at_ = 3 ∧ i = h.p) ∨ ((h.at_ = 4 ∨ h.at_ = 5) ∧ (i = h.p ∨ i = h.c))
structure LI (s : Bs) (h : Hd) (kd K : Int) (g : Prop) : Prop where
  le : h.at_ ≤ 5
  pc : h.at_ ≠ 0 → h.p < s.sz ∧ h.c < s.sz ∧ s.key h.p < K
  one : h.at_ = 1 → g ∨ Wit s h.c K
  two : 2 ≤ h.at_ → K ≤ s.key h.c ∧ kd ≠ 3
  five : h.at_ = 5 → kd = 2 ∧ s.key h.c = K ∧ s.mrk h.c = true ∧ s.mrk h.p = false ∧ s.nx h.p = h.c ∧ h.is_ = true
theorem LI.start (s : Bs) (kd K : Int) (g : Prop) : LI s hd0 kd K g := ⟨Nat.zero_le _, fun h => absurd rfl h, fun h => absurd h (by decide), fun h => absurd h (by decide), fun h => absurd h (by decide)⟩
def Kept (s s' : Bs) (own : Nat → Prop) : Prop := ∀ i, i < s.sz → ¬ own i → s'.nx i = s.nx i ∧ s'.mrk i = s.mrk i
theorem LI.other {s s' : Bs} {e : Eff} {h : Hd} {kd K : Int} {g g' : Prop} {own : Nat → Prop} (hm : LI s h kd K g) (hs : Stp s s' e) (hk : Kept s s' own) (ho : ∀ i, lazyO h i → ¬ own i) (hg : g → g') (hg2 : ¬ s'.has K → g') : LI s' h kd K g' := by
  have hG := hs.grow
  refine ⟨hm.le, fun h0 => ?_, fun h1 => ?_, fun h2 => ?_, fun h5 => ?_⟩
  · obtain ⟨a, b, d⟩ := hm.pc h0
    exact ⟨Nat.lt_of_lt_of_le a hG.sz, Nat.lt_of_lt_of_le b hG.sz, by rw [hG.key _ a]; exact d⟩
  · rcases hm.one h1 with h | h
    · exact .inl (hg h)
    · rcases hs.wit _ K (hm.pc (by omega)).2.1 h with h | h
      · exact .inr h
      · exact .inl (hg2 h)
  · rw [hG.key _ (hm.pc (by omega)).2.1]
    exact hm.two h2
  · obtain ⟨a, b, d, e, f, i⟩ := hm.five h5
    obtain ⟨p1, p2, _⟩ := hm.pc (by omega)
    obtain ⟨k1, k2⟩ := hk h.p p1 (ho _ (.inr ⟨.inr h5, .inl rfl⟩))
    exact ⟨a, by rw [hG.key _ p2]; exact b, hG.mrk _ p2 d, by rw [k2]; exact e, by rw [k1]; exact f, i⟩
theorem kept_none (s : Bs) (own : Nat → Prop) : Kept s s own := fun _ _ _ => ⟨rfl, rfl⟩
theorem kept_ins {s : Bs} {p : Nat} {K : Int} {own : Nat → Prop} (hp : own p) : Kept s (s.ins p K) own := fun i hi hn => by
  have e : i ≠ p := fun e => hn (by rw [e]; exact hp)
  refine ⟨?_, ?_⟩
  · show upd (upd s.nx s.sz (s.nx p)) p s.sz i = s.nx i
    rw [upd_other _ _ e, upd_other _ _ (by omega)]
  · show upd s.mrk s.sz false i = s.mrk i
    rw [upd_other _ _ (by omega)]
theorem kept_mark {s : Bs} {c : Nat} {own : Nat → Prop} (hc : own c) : Kept s (s.mark c) own := fun i _ hn => ⟨rfl, by
  show upd s.mrk c true i = s.mrk i
  rw [upd_other _ _ (fun e => hn (by rw [e]; exact hc))]⟩
theorem kept_cut {s : Bs} {p c : Nat} {own : Nat → Prop} (hp : own p) : Kept s (s.cut p c) own := fun i _ hn => ⟨by
  show upd s.nx p (s.nx c) i = s.nx i
  rw [upd_other _ _ (fun e => hn (by rw [e]; exact hp))], rfl⟩
theorem kept_trans {s s1 s2 : Bs} {own : Nat → Prop} (h1 : Kept s s1 own) (h2 : Kept s1 s2 own) (hz : s.sz ≤ s1.sz) : Kept s s2 own := fun i hi hn => by
  obtain ⟨a, b⟩ := h1 i hi hn
  obtain ⟨c, d⟩ := h2 i (Nat.lt_of_lt_of_le hi hz) hn
  exact ⟨c.trans a, d.trans b⟩

theorem LI.own {s : Bs} {lk : Nat → Bool} {h : Hd} {kd K : Int} {g g' : Prop} (hc : Cor s) (hm : LI s h kd K g) (hK : 0 ≤ K ∧ K ≤ 9) (hkd : kd = 1 ∨ kd = 2 ∨ kd = 3) (hg : g → g') (hg2 : ¬ (lazyS s lk h kd K).s.has K → g') :
    Stp s (lazyS s lk h kd K).s (lazyS s lk h kd K).e ∧ Kept s (lazyS s lk h kd K).s (lazyO h) ∧ ((lazyS s lk h kd K).over = false → LI (lazyS s lk h kd K).s (lazyS s lk h kd K).h kd K g' ∧ ((lazyS s lk h kd K).e = .none ∧ ((lazyS s lk h kd K).h.at_ = 5 → h.at_ = 5) ∨ (lazyS s lk h kd K).e = .del K ∧ kd = 2 ∧ s.has K ∧ (lazyS s lk h kd K).h.at_ = 5)) ∧ ((lazyS s lk h kd K).over = true → Out s (lazyS s lk h kd K).res kd K (h.at_ = 5) g) := by
  have hat := hm.le
  rcases (show h.at_ = 0 ∨ h.at_ = 1 ∨ h.at_ = 2 ∨ h.at_ = 3 ∨ h.at_ = 4 ∨ h.at_ = 5 by omega) with h0 | h0 | h0 | h0 | h0 | h0
  · have e : lazyS s lk h kd K = ⟨s, lk, ⟨1, 0, s.nx 0, h.is_⟩, .none, false⟩ := by unfold lazyS; rw [if_pos h0]
    rw [e] at hg2 ⊢
    refine ⟨Stp.none hc, kept_none _ _, fun _ => ⟨⟨by simp, fun _ => ⟨hc.pos, hc.nlt 0 hc.pos (fun e => hc.hd e.symm), by rw [hc.k0]; omega⟩, fun _ => ?_, fun h => by simp at h, fun h => by simp at h⟩, .inl ⟨rfl, fun h => by simp at h⟩⟩, fun h => by cases h⟩
    by_cases hh : s.has K
    · exact .inr (Wit.first hc hK.1 hh)
    · exact .inl (hg2 hh)
  · obtain ⟨p1, p2, p3⟩ := hm.pc (by omega)
    have hw := hm.one h0
    have e0 : lazyS s lk h kd K = if s.key h.c < K then ⟨s, lk, ⟨1, h.c, s.nx h.c, h.is_⟩, .none, false⟩
     else if kd = 3 then ⟨s, lk, ⟨1, h.p, h.c, decide (s.key h.c = K) && !s.mrk h.c⟩, .none, true⟩
     else if lk h.p = false then ⟨s, upd lk h.p true, ⟨3, h.p, h.c, h.is_⟩, .none, false⟩
     else ⟨s, lk, ⟨2, h.p, h.c, h.is_⟩, .none, false⟩ := by unfold lazyS; rw [if_neg (by omega), if_pos h0]
    by_cases c2 : s.key h.c < K
    · have e : lazyS s lk h kd K = ⟨s, lk, ⟨1, h.c, s.nx h.c, h.is_⟩, .none, false⟩ := by rw [e0, if_pos c2]
      rw [e]
      have hct : h.c ≠ s.tl := key_tl hc hK (.inl c2)
      refine ⟨Stp.none hc, kept_none _ _, fun _ => ⟨⟨by simp, fun _ => ⟨p2, hc.nlt _ p2 hct, c2⟩, fun _ => ?_, fun h => by simp at h, fun h => by simp at h⟩, .inl ⟨rfl, fun h => by simp at h⟩⟩, fun h => by cases h⟩
      rcases hw with hw | hw
      · exact .inl (hg hw)
      · exact .inr (hw.on (by omega))
    · have found : g ∨ (s.key h.c = K ∧ s.mrk h.c = false) := by
        rcases hw with hw | hw
        · exact .inl hw
        · exact .inr (hw.found hc p2 (by omega))
      by_cases c3 : kd = 3
      · have e : lazyS s lk h kd K = ⟨s, lk, ⟨1, h.p, h.c, decide (s.key h.c = K) && !s.mrk h.c⟩, .none, true⟩ := by rw [e0, if_neg c2, if_pos c3]
        rw [e]
        refine ⟨Stp.none hc, kept_none _ _, fun h => (by cases h), fun _ => ?_⟩
        by_cases c4 : s.key h.c = K ∧ s.mrk h.c = false
        · refine .inr (.inr (.inr (.inl ⟨rfl, .inl ⟨c3, ?_⟩⟩)))
          have : (decide (s.key h.c = K) && !s.mrk h.c) = true := by simp [c4.1, c4.2]
          exact ⟨fun _ => ⟨h.c, p2, c4.1, c4.2⟩, fun _ => this⟩
        · rcases found with hgg | hf
          · refine .inr (.inr (.inr (.inr ⟨rfl, hgg, .inl ⟨c3, ?_⟩⟩)))
            have : (decide (s.key h.c = K) && !s.mrk h.c) = false := by
              cases hb : s.mrk h.c with
              | true => simp
              | false =>
                have hne : s.key h.c ≠ K := fun e => c4 ⟨e, hb⟩
                simp [hne]
            show (decide (s.key h.c = K) && !s.mrk h.c) = true ↔ False
            rw [this]
            simp
          · exact absurd hf c4
      · by_cases c4 : lk h.p = false
        · have e : lazyS s lk h kd K = ⟨s, upd lk h.p true, ⟨3, h.p, h.c, h.is_⟩, .none, false⟩ := by rw [e0, if_neg c2, if_neg c3, if_pos c4]
          rw [e]
          exact ⟨Stp.none hc, kept_none _ _, fun _ => ⟨⟨by simp, fun _ => ⟨p1, p2, p3⟩, fun h => by simp at h, fun _ => ⟨by show K ≤ s.key h.c; omega, c3⟩, fun h => by simp at h⟩, .inl ⟨rfl, fun h => by simp at h⟩⟩, fun h => by cases h⟩
        · have e : lazyS s lk h kd K = ⟨s, lk, ⟨2, h.p, h.c, h.is_⟩, .none, false⟩ := by rw [e0, if_neg c2, if_neg c3, if_neg c4]
          rw [e]
          exact ⟨Stp.none hc, kept_none _ _, fun _ => ⟨⟨by simp, fun _ => ⟨p1, p2, p3⟩, fun h => by simp at h, fun _ => ⟨by show K ≤ s.key h.c; omega, c3⟩, fun h => by simp at h⟩, .inl ⟨rfl, fun h => by simp at h⟩⟩, fun h => by cases h⟩
  · have hpc := hm.pc (by omega)
    have h2 := hm.two (by omega)
    have e0 : lazyS s lk h kd K = if lk h.p = false then ⟨s, upd lk h.p true, ⟨3, h.p, h.c, h.is_⟩, .none, false⟩ else ⟨s, lk, h, .none, false⟩ := by unfold lazyS; rw [if_neg (by omega), if_neg (by omega), if_pos h0]
    by_cases c1 : lk h.p = false
    · rw [e0, if_pos c1]
      exact ⟨Stp.none hc, kept_none _ _, fun _ => ⟨⟨by simp, fun _ => hpc, fun h => by simp at h, fun _ => h2, fun h => by simp at h⟩, .inl ⟨rfl, fun h => by simp at h⟩⟩, fun h => by cases h⟩
    · rw [e0, if_neg c1]
      exact ⟨Stp.none hc, kept_none _ _, fun _ => ⟨⟨hat, hm.pc, fun h1 => absurd (show h.at_ = 1 from h1) (by omega), hm.two, fun h5 => absurd (show h.at_ = 5 from h5) (by omega)⟩, .inl ⟨rfl, fun h => h⟩⟩, fun h => by cases h⟩
  · have hpc := hm.pc (by omega)
    have h2 := hm.two (by omega)
    have e0 : lazyS s lk h kd K = if lk h.c = false then ⟨s, upd lk h.c true, ⟨4, h.p, h.c, h.is_⟩, .none, false⟩ else ⟨s, lk, h, .none, false⟩ := by unfold lazyS; rw [if_neg (by omega), if_neg (by omega), if_neg (by omega), if_pos h0]
    by_cases c1 : lk h.c = false
    · rw [e0, if_pos c1]
      exact ⟨Stp.none hc, kept_none _ _, fun _ => ⟨⟨by simp, fun _ => hpc, fun h => by simp at h, fun _ => h2, fun h => by simp at h⟩, .inl ⟨rfl, fun h => by simp at h⟩⟩, fun h => by cases h⟩
    · rw [e0, if_neg c1]
      exact ⟨Stp.none hc, kept_none _ _, fun _ => ⟨⟨hat, hm.pc, fun h1 => absurd (show h.at_ = 1 from h1) (by omega), hm.two, fun h5 => absurd (show h.at_ = 5 from h5) (by omega)⟩, .inl ⟨rfl, fun h => h⟩⟩, fun h => by cases h⟩
  · obtain ⟨p1, p2, p3⟩ := hm.pc (by omega)
    obtain ⟨k1, k2⟩ := hm.two (by omega)
    have hpt : h.p ≠ s.tl := key_tl hc hK (.inl p3)
    have ownP : lazyO h h.p := .inr ⟨.inl h0, .inl rfl⟩
    have ownC : lazyO h h.c := .inr ⟨.inl h0, .inr rfl⟩
    have e0 : lazyS s lk h kd K = if s.mrk h.p = true ∨ s.mrk h.c = true ∨ s.nx h.p ≠ h.c then ⟨s, fre lk h, ⟨0, h.p, h.c, h.is_⟩, .none, false⟩
     else if kd = 2 then
       (if s.key h.c = K then ⟨s.mark h.c, lk, ⟨5, h.p, h.c, true⟩, .del K, false⟩ else ⟨s, fre lk h, ⟨4, h.p, h.c, false⟩, .none, true⟩)
     else (if s.key h.c = K then ⟨s, fre lk h, ⟨4, h.p, h.c, false⟩, .none, true⟩ else ⟨s.ins h.p K, fre lk h, ⟨4, h.p, h.c, true⟩, .add K, true⟩) := by
      unfold lazyS; rw [if_neg (by omega), if_neg (by omega), if_neg (by omega), if_neg (by omega), if_pos h0]
    by_cases c1 : s.mrk h.p = true ∨ s.mrk h.c = true ∨ s.nx h.p ≠ h.c
    · rw [e0, if_pos c1]
      exact ⟨Stp.none hc, kept_none _ _, fun _ => ⟨⟨by simp, fun h => absurd rfl h, fun h => by simp at h, fun h => by simp at h, fun h => by simp at h⟩, .inl ⟨rfl, fun h => by simp at h⟩⟩, fun h => by cases h⟩
    · simp only [not_or] at c1
      have mp : s.mrk h.p = false := by cases hb : s.mrk h.p with
        | true => exact absurd hb c1.1
        | false => rfl
      have mc : s.mrk h.c = false := by cases hb : s.mrk h.c with
        | true => exact absurd hb c1.2.1
        | false => rfl
      have hn : s.nx h.p = h.c := Classical.byContradiction c1.2.2
      have c1' : ¬ (s.mrk h.p = true ∨ s.mrk h.c = true ∨ s.nx h.p ≠ h.c) := by simp only [not_or]; exact c1
      have nothere : s.key h.c ≠ K → ¬ s.has K := fun hne ⟨i, hi, hk, hmi⟩ => hc.gap p1 hpt mp p3 (by rw [hn]; omega) hi hmi hk
      by_cases c2 : kd = 2
      · by_cases c3 : s.key h.c = K
        · have e : lazyS s lk h kd K = ⟨s.mark h.c, lk, ⟨5, h.p, h.c, true⟩, .del K, false⟩ := by rw [e0, if_neg c1', if_pos c2, if_pos c3]
          rw [e]
          have hpc : h.p ≠ h.c := fun e => by rw [e] at p3; omega
          refine ⟨Stp.mark hc p2 mc c3 hK, kept_mark ownC, fun _ => ⟨⟨by simp, fun _ => ⟨p1, p2, p3⟩, fun h => by simp at h, fun _ => ⟨k1, k2⟩, fun _ => ⟨c2, c3, ?_, ?_, hn, rfl⟩⟩, .inr ⟨rfl, c2, ⟨h.c, p2, c3, mc⟩, rfl⟩⟩, fun h => by cases h⟩
          · show upd s.mrk h.c true h.c = true
            rw [upd_same]
          · show upd s.mrk h.c true h.p = false
            rw [upd_other _ _ hpc]
            exact mp
        · have e : lazyS s lk h kd K = ⟨s, fre lk h, ⟨4, h.p, h.c, false⟩, .none, true⟩ := by rw [e0, if_neg c1', if_pos c2, if_neg c3]
          rw [e]
          exact ⟨Stp.none hc, kept_none _ _, fun h => (by cases h), fun _ => .inr (.inr (.inr (.inl ⟨rfl, .inr (.inr ⟨c2, rfl, nothere c3⟩)⟩)))⟩
      · have c4 : kd = 1 := by omega
        by_cases c3 : s.key h.c = K
        · have e : lazyS s lk h kd K = ⟨s, fre lk h, ⟨4, h.p, h.c, false⟩, .none, true⟩ := by rw [e0, if_neg c1', if_neg c2, if_pos c3]
          rw [e]
          exact ⟨Stp.none hc, kept_none _ _, fun h => (by cases h), fun _ => .inr (.inr (.inr (.inl ⟨rfl, .inr (.inl ⟨c4, rfl, h.c, p2, c3, mc⟩)⟩)))⟩
        · have e : lazyS s lk h kd K = ⟨s.ins h.p K, fre lk h, ⟨4, h.p, h.c, true⟩, .add K, true⟩ := by rw [e0, if_neg c1', if_neg c2, if_neg c3]
          rw [e]
          exact ⟨Stp.ins hc p1 hpt mp p3 (by rw [hn]; omega), kept_ins ownP, fun h => (by cases h), fun _ => .inl ⟨rfl, c4, nothere c3, rfl⟩⟩
  · obtain ⟨p1, p2, p3⟩ := hm.pc (by omega)
    have hpt : h.p ≠ s.tl := key_tl hc hK (.inl p3)
    obtain ⟨k1, k2, k3, k4, k5, k6⟩ := hm.five h0
    have e : lazyS s lk h kd K = ⟨s.cut h.p h.c, fre lk h, h, .none, true⟩ := by unfold lazyS; rw [if_neg (by omega), if_neg (by omega), if_neg (by omega), if_neg (by omega), if_neg (by omega)]
    rw [e]
    exact ⟨Stp.cut hc p1 hpt k5 k3, kept_cut (.inr ⟨.inr h0, .inl rfl⟩), fun h => (by cases h), fun _ => .inr (.inr (.inl ⟨h0, rfl, k1, k6⟩))⟩

end Go.Proofs.Ytfmdpmebllepeaa

/-
  THOSE THAT GO HAND OVER HAND: one step, what stays, what it tells; what all three ways share: plain mathematics. Nothing of the program.
-/
namespace Go.Proofs.Ytfmdpmebllepeaa

def overS (s : Bs) (lk : Nat → Bool) (h : Hd) (kd K : Int) : Rel :=
  if h.at_ = 0 then (if lk 0 = false then ⟨s, upd lk 0 true, ⟨1, 0, s.nx 0, h.is_⟩, .none, false⟩ else ⟨s, lk, h, .none, false⟩)
  else if h.at_ = 1 then (if lk h.c = false then ⟨s, upd lk h.c true, ⟨2, h.p, h.c, h.is_⟩, .none, false⟩ else ⟨s, lk, h, .none, false⟩)
  else if s.key h.c < K then ⟨s, upd lk h.p false, ⟨1, h.c, s.nx h.c, h.is_⟩, .none, false⟩
  else if kd = 3 then ⟨s, fre lk h, ⟨2, h.p, h.c, decide (s.key h.c = K)⟩, .none, true⟩
  else if kd = 2 then (if s.key h.c = K then ⟨(s.mark h.c).cut h.p h.c, fre lk h, ⟨2, h.p, h.c, true⟩, .del K, true⟩ else ⟨s, fre lk h, ⟨2, h.p, h.c, false⟩, .none, true⟩)
  else (if s.key h.c = K then ⟨s, fre lk h, ⟨2, h.p, h.c, false⟩, .none, true⟩ else ⟨s.ins h.p K, fre lk h, ⟨2, h.p, h.c, true⟩, .add K, true⟩)
def overO (h : Hd) (i : Nat) : Prop := (h.at_ = 1 ∧ i = h.p) ∨ (h.at_ = 2 ∧ (i = h.p ∨ i = h.c))
structure Cor1 (s : Bs) : Prop where
  cor : Cor s
  nxt : ∀ i, i < s.sz → i ≠ s.tl → s.mrk i = false → s.mrk (s.nx i) = false
structure KI (s : Bs) (h : Hd) (K : Int) : Prop where
  le : h.at_ ≤ 2
  pc : h.at_ ≠ 0 → h.p < s.sz ∧ s.key h.p < K ∧ s.mrk h.p = false ∧ s.nx h.p = h.c
theorem KI.start (s : Bs) (K : Int) : KI s hd0 K := ⟨Nat.zero_le _, fun h => absurd rfl h⟩
theorem KI.other {s s' : Bs} {e : Eff} {h : Hd} {K : Int} {own : Nat → Prop} (hm : KI s h K) (hs : Stp s s' e) (hk : Kept s s' own) (ho : ∀ i, overO h i → ¬ own i) : KI s' h K := by
  refine ⟨hm.le, fun h0 => ?_⟩
  obtain ⟨a, b, c, d⟩ := hm.pc h0
  have hle := hm.le
  have hop : overO h h.p := by
    rcases (show h.at_ = 1 ∨ h.at_ = 2 by omega) with e | e
    · exact .inl ⟨e, rfl⟩
    · exact .inr ⟨e, .inl rfl⟩
  obtain ⟨k1, k2⟩ := hk h.p a (ho _ hop)
  exact ⟨Nat.lt_of_lt_of_le a hs.grow.sz, by rw [hs.grow.key _ a]; exact b, by rw [k2]; exact c, by rw [k1]; exact d⟩
theorem Cor1.ins {s : Bs} (h : Cor1 s) {p : Nat} {K : Int} (hp : p < s.sz) (hpt : p ≠ s.tl) (mp : s.mrk p = false) (h1 : s.key p < K) (h2 : K < s.key (s.nx p)) : Cor1 (s.ins p K) := by
  refine ⟨h.cor.ins hp hpt mp h1 h2, fun i hi hit hm => ?_⟩
  have hi' : i < s.sz + 1 := hi
  have hnp := h.cor.nlt p hp hpt
  show upd s.mrk s.sz false (upd (upd s.nx s.sz (s.nx p)) p s.sz i) = false
  have hm' : upd s.mrk s.sz false i = false := hm
  by_cases e : i = p
  · rw [e, upd_same, upd_same]
  · rw [upd_other _ _ e]
    by_cases e2 : i = s.sz
    · rw [e2, upd_same, upd_other _ _ (by omega)]
      exact h.nxt p hp hpt mp
    · have hi2 : i < s.sz := by omega
      rw [upd_other _ _ e2] at hm' ⊢
      rw [upd_other _ _ (by have := h.cor.nlt i hi2 hit; omega)]
      exact h.nxt i hi2 hit hm'
theorem Cor1.gone {s : Bs} (h : Cor1 s) {p c : Nat} {K : Int} (hp : p < s.sz) (hpt : p ≠ s.tl) (mp : s.mrk p = false) (hn : s.nx p = c) (hk : s.key c = K) (hK : 0 ≤ K ∧ K ≤ 9) : Cor1 ((s.mark c).cut p c) ∧ Stp s ((s.mark c).cut p c) (.del K) := by
  have hc : c < s.sz := by rw [← hn]; exact h.cor.nlt p hp hpt
  have hct : c ≠ s.tl := key_tl h.cor hK (.inr hk)
  have mc : s.mrk c = false := by rw [← hn]; exact h.nxt p hp hpt mp
  have st1 := Stp.mark h.cor hc mc hk hK
  have st2 := Stp.cut st1.cor (p := p) (c := c) hp hpt hn (upd_same _ _ _)
  refine ⟨⟨st2.cor, fun i hi hit hm => ?_⟩, st1.then st2⟩
  have hm' : upd s.mrk c true i = false := hm
  have hic : i ≠ c := fun e => by rw [e, upd_same] at hm'; cases hm'
  rw [upd_other _ _ hic] at hm'
  have up := h.cor.up
  show upd s.mrk c true (upd s.nx p (s.nx c) i) = false
  by_cases e : i = p
  · rw [e, upd_same, upd_other _ _ (fun e2 => by have := up c hc hct; rw [e2] at this; omega)]
    exact h.nxt c hc hct mc
  · rw [upd_other _ _ e]
    have hne : s.nx i ≠ c := fun e2 => by
      have r1 := h.cor.all i hi hm'
      have r2 := h.cor.all p hp mp
      have u1 := up i hi hit
      have u2 := up p hp hpt
      rw [e2] at u1
      rw [hn] at u2
      rcases r1.total r2 with h3 | h3
      · have := (h.cor.reach_key (h3.next e).2 (by rw [e2]; exact hc)).1
        rw [e2] at this
        omega
      · have := (h.cor.reach_key (h3.next (fun e3 => e e3.symm)).2 (by rw [hn]; exact hc)).1
        rw [hn] at this
        omega
    rw [upd_other _ _ hne]
    exact h.nxt i hi hit hm'
theorem KI.own {s : Bs} {lk : Nat → Bool} {h : Hd} {kd K : Int} (hc : Cor1 s) (hm : KI s h K) (hK : 0 ≤ K ∧ K ≤ 9) (hkd : kd = 1 ∨ kd = 2 ∨ kd = 3) :
    Cor1 (overS s lk h kd K).s ∧ Stp s (overS s lk h kd K).s (overS s lk h kd K).e ∧ Kept s (overS s lk h kd K).s (overO h) ∧ ((overS s lk h kd K).over = false → KI (overS s lk h kd K).s (overS s lk h kd K).h K ∧ (overS s lk h kd K).e = .none) ∧ ((overS s lk h kd K).over = true → Out s (overS s lk h kd K).res kd K False False) := by
  have hat := hm.le
  have hco := hc.cor
  rcases (show h.at_ = 0 ∨ h.at_ = 1 ∨ h.at_ = 2 by omega) with h0 | h0 | h0
  · have e0 : overS s lk h kd K = if lk 0 = false then ⟨s, upd lk 0 true, ⟨1, 0, s.nx 0, h.is_⟩, .none, false⟩ else ⟨s, lk, h, .none, false⟩ := by unfold overS; rw [if_pos h0]
    by_cases c1 : lk 0 = false
    · rw [e0, if_pos c1]
      exact ⟨hc, Stp.none hco, kept_none _ _, fun _ => ⟨⟨by simp, fun _ => ⟨hco.pos, by rw [hco.k0]; omega, hco.m0, rfl⟩⟩, rfl⟩, fun h => by cases h⟩
    · rw [e0, if_neg c1]
      exact ⟨hc, Stp.none hco, kept_none _ _, fun _ => ⟨hm, rfl⟩, fun h => by cases h⟩
  · have e0 : overS s lk h kd K = if lk h.c = false then ⟨s, upd lk h.c true, ⟨2, h.p, h.c, h.is_⟩, .none, false⟩ else ⟨s, lk, h, .none, false⟩ := by unfold overS; rw [if_neg (by omega), if_pos h0]
    by_cases c1 : lk h.c = false
    · rw [e0, if_pos c1]
      exact ⟨hc, Stp.none hco, kept_none _ _, fun _ => ⟨⟨by simp, fun _ => hm.pc (by omega)⟩, rfl⟩, fun h => by cases h⟩
    · rw [e0, if_neg c1]
      exact ⟨hc, Stp.none hco, kept_none _ _, fun _ => ⟨hm, rfl⟩, fun h => by cases h⟩
  · obtain ⟨p1, p2, p3, p4⟩ := hm.pc (by omega)
    have hpt : h.p ≠ s.tl := key_tl hco hK (.inl p2)
    have hcs : h.c < s.sz := by rw [← p4]; exact hco.nlt _ p1 hpt
    have mc : s.mrk h.c = false := by rw [← p4]; exact hc.nxt _ p1 hpt p3
    have ownP : overO h h.p := .inr ⟨h0, .inl rfl⟩
    have ownC : overO h h.c := .inr ⟨h0, .inr rfl⟩
    have e0 : overS s lk h kd K = if s.key h.c < K then ⟨s, upd lk h.p false, ⟨1, h.c, s.nx h.c, h.is_⟩, .none, false⟩
      else if kd = 3 then ⟨s, fre lk h, ⟨2, h.p, h.c, decide (s.key h.c = K)⟩, .none, true⟩
      else if kd = 2 then (if s.key h.c = K then ⟨(s.mark h.c).cut h.p h.c, fre lk h, ⟨2, h.p, h.c, true⟩, .del K, true⟩ else ⟨s, fre lk h, ⟨2, h.p, h.c, false⟩, .none, true⟩)
      else (if s.key h.c = K then ⟨s, fre lk h, ⟨2, h.p, h.c, false⟩, .none, true⟩ else ⟨s.ins h.p K, fre lk h, ⟨2, h.p, h.c, true⟩, .add K, true⟩) := by unfold overS; rw [if_neg (by omega), if_neg (by omega)]
    by_cases c1 : s.key h.c < K
    · rw [e0, if_pos c1]
      exact ⟨hc, Stp.none hco, kept_none _ _, fun _ => ⟨⟨by simp, fun _ => ⟨hcs, c1, mc, rfl⟩⟩, rfl⟩, fun h => by cases h⟩
    · have nothere : s.key h.c ≠ K → ¬ s.has K := fun hne ⟨i, hi, hk, hmi⟩ => hco.gap p1 hpt p3 p2 (by rw [p4]; omega) hi hmi hk
      have there : s.key h.c = K → s.has K := fun hk => ⟨h.c, hcs, hk, mc⟩
      by_cases c2 : kd = 3
      · rw [e0, if_neg c1, if_pos c2]
        refine ⟨hc, Stp.none hco, kept_none _ _, fun h => (by cases h), fun _ => .inr (.inr (.inr (.inl ⟨rfl, .inl ⟨c2, ?_⟩⟩)))⟩
        show decide (s.key h.c = K) = true ↔ s.has K
        rw [decide_eq_true_iff]
        exact ⟨there, fun hh => Classical.byContradiction fun hne => nothere hne hh⟩
      · by_cases c3 : kd = 2
        · by_cases c4 : s.key h.c = K
          · rw [e0, if_neg c1, if_neg c2, if_pos c3, if_pos c4]
            obtain ⟨g1, g2⟩ := hc.gone p1 hpt p3 p4 c4 hK
            exact ⟨g1, g2, kept_trans (kept_mark ownC) (kept_cut ownP) (Nat.le_refl _), fun h => (by cases h), fun _ => .inr (.inl ⟨rfl, c3, there c4, rfl⟩)⟩
          · rw [e0, if_neg c1, if_neg c2, if_pos c3, if_neg c4]
            exact ⟨hc, Stp.none hco, kept_none _ _, fun h => (by cases h), fun _ => .inr (.inr (.inr (.inl ⟨rfl, .inr (.inr ⟨c3, rfl, nothere c4⟩)⟩)))⟩
        · have c5 : kd = 1 := by omega
          by_cases c4 : s.key h.c = K
          · rw [e0, if_neg c1, if_neg c2, if_neg c3, if_pos c4]
            exact ⟨hc, Stp.none hco, kept_none _ _, fun h => (by cases h), fun _ => .inr (.inr (.inr (.inl ⟨rfl, .inr (.inl ⟨c5, rfl, there c4⟩)⟩)))⟩
          · rw [e0, if_neg c1, if_neg c2, if_neg c3, if_neg c4]
            have hb : K < s.key (s.nx h.p) := by rw [p4]; omega
            exact ⟨hc.ins p1 hpt p3 p2 hb, Stp.ins hco p1 hpt p3 p2 hb, kept_ins ownP, fun h => (by cases h), fun _ => .inl ⟨rfl, c5, nothere c4, rfl⟩⟩

end Go.Proofs.Ytfmdpmebllepeaa

/-
  WHAT THE THREE WAYS SHARE: locks, what is told, what others see: plain mathematics. Nothing of the program.
-/
namespace Go.Proofs.Ytfmdpmebllepeaa

structure Alg where
  step : Bs → (Nat → Bool) → Hd → Int → Int → Rel
  own : Hd → Nat → Prop
  mov : Hd → Nat → Prop
  pend : Hd → Prop
  cor : Bs → Prop
  inv : Bs → Hd → Int → Int → Prop → Prop
def Rel.nh (r : Rel) : Hd := if r.over = true then hd0 else r.h
def Out0 (s : Bs) (r : Rel) (kd K : Int) (g : Prop) : Prop :=
  (r.e = .add K ∧ kd = 1 ∧ ¬ s.has K ∧ r.h.is_ = true) ∨ (r.e = .del K ∧ kd = 2 ∧ s.has K ∧ r.h.is_ = true) ∨ (r.e = .none ∧ Ans0 kd r.h.is_ (s.has K)) ∨ (r.e = .none ∧ g ∧ Ans0 kd r.h.is_ False)
abbrev Dee (kd K : Int) : Prop := (0 ≤ K ∧ K ≤ 9) ∧ (kd = 1 ∨ kd = 2 ∨ kd = 3)
structure AlgOk (A : Alg) : Prop where
  core : ∀ {s}, A.cor s → Cor s
  start : ∀ s kd K g, A.inv s hd0 kd K g
  nown : ∀ i, ¬ A.own hd0 i
  npend : ¬ A.pend hd0
  first : ∀ s lk kd K, (A.step s lk hd0 kd K).over = false
  apart : ∀ {h h'}, (∀ i, A.own h i → ¬ A.own h' i) → ∀ i, A.own h i → ¬ A.mov h' i
  other : ∀ {s s' e h kd K} {g g' : Prop} {o : Nat → Prop}, A.inv s h kd K g → Stp s s' e → Kept s s' o → (∀ i, A.own h i → ¬ o i) → (g → g') → (¬ s'.has K → g') → A.inv s' h kd K g'
  stp : ∀ {s lk h kd K g}, A.cor s → A.inv s h kd K g → Dee kd K → A.cor (A.step s lk h kd K).s ∧ Stp s (A.step s lk h kd K).s (A.step s lk h kd K).e ∧ Kept s (A.step s lk h kd K).s (A.mov h)
  go : ∀ {s lk h kd K} {g g' : Prop}, A.cor s → A.inv s h kd K g → Dee kd K → (g → g') → (¬ (A.step s lk h kd K).s.has K → g') → (A.step s lk h kd K).over = false →
    ¬ A.pend h ∧ A.inv (A.step s lk h kd K).s (A.step s lk h kd K).h kd K g' ∧ (((A.step s lk h kd K).e = .none ∧ ¬ A.pend (A.step s lk h kd K).h) ∨ ((A.step s lk h kd K).e = .del K ∧ kd = 2 ∧ s.has K ∧ A.pend (A.step s lk h kd K).h))
  fin : ∀ {s lk h kd K g}, A.cor s → A.inv s h kd K g → Dee kd K → (A.step s lk h kd K).over = true → (A.pend h → (A.step s lk h kd K).e = .none ∧ kd = 2 ∧ (A.step s lk h kd K).h.is_ = true) ∧ (¬ A.pend h → Out0 s (A.step s lk h kd K) kd K g)
  lock : ∀ {s lk h kd K g}, A.cor s → A.inv s h kd K g → Dee kd K → (∀ i, A.own h i → lk i = true) → (∀ i, A.own (A.step s lk h kd K).nh i → (A.step s lk h kd K).lk i = true ∧ (A.own h i ∨ lk i = false)) ∧ (∀ i, lk i = true → (A.step s lk h kd K).lk i = false → A.own h i)

def aMark : Alg := ⟨fun s lk h kd K => ⟨(markS s h kd K).s, lk, (markS s h kd K).h, (markS s h kd K).e, (markS s h kd K).over⟩, fun _ _ => False, fun _ _ => True, fun h => h.at_ = 3, Cor, MI⟩
theorem markS_pend {s : Bs} {h : Hd} {kd K : Int} (h3 : h.at_ = 3) : (markS s h kd K).over = true := by
  unfold markS
  rw [if_neg (by omega), if_neg (by omega), if_neg (by omega)]
  split <;> rfl
theorem out_0 {s : Bs} {r : Rel} {kd K : Int} {f g : Prop} (h : Out s r.res kd K f g) (hf : ¬ f) : Out0 s r kd K g := by
  rcases h with h | h | h | h | h
  · exact .inl h
  · exact .inr (.inl h)
  · exact absurd h.1 hf
  · exact .inr (.inr (.inl h))
  · exact .inr (.inr (.inr h))
theorem aMark_ok : AlgOk aMark where
  core := fun h => h
  start := MI.start
  nown := fun _ h => h
  npend := by show ¬ (0 = 3); omega
  first := fun s lk kd K => by show (markS s hd0 kd K).over = false; unfold markS; rw [if_pos rfl]
  apart := fun _ _ h => h.elim
  other := fun hm hs _ _ hg hg2 => MI.other hm hs hg hg2
  stp := fun hc hm hd => by
    have := (MI.own hc hm hd.1 hd.2 (g' := True) (fun _ => trivial) (fun _ => trivial)).1
    exact ⟨this.cor, this, fun _ _ h => absurd trivial h⟩
  go := fun {s lk h kd K g g'} hc hm hd hg hg2 ho => by
    have h3 : ¬ h.at_ = 3 := fun h3 => by
      have ho' : (markS s h kd K).over = false := ho
      rw [markS_pend h3] at ho'
      cases ho'
    obtain ⟨h1, h2⟩ := (MI.own hc hm hd.1 hd.2 hg hg2).2.1 ho
    refine ⟨h3, h1, ?_⟩
    rcases h2 with ⟨a, b⟩ | h2
    · exact .inl ⟨a, fun e => h3 (b e)⟩
    · exact .inr h2
  fin := fun {s lk h kd K g} hc hm hd ho => by
    have hO := (MI.own hc hm hd.1 hd.2 (g' := True) (fun _ => trivial) (fun _ => trivial)).2.2 ho
    refine ⟨fun hp => ?_, fun hp => out_0 (r := aMark.step s lk h kd K) hO hp⟩
    have hp' : h.at_ = 3 := hp
    obtain ⟨k1, _, _, k4⟩ := hm.three hp'
    have e0 : markS s h kd K = if clean s h then ⟨s.cut h.p h.c, h, .none, true⟩ else ⟨s, h, .none, true⟩ := by unfold markS; rw [if_neg (by omega), if_neg (by omega), if_neg (by omega)]
    show (markS s h kd K).e = .none ∧ kd = 2 ∧ (markS s h kd K).h.is_ = true
    rw [e0]
    split <;> exact ⟨rfl, k1, k4⟩
  lock := fun {s lk h kd K g} _ _ _ _ => ⟨fun _ h => h.elim, fun i h1 h2 => by
    have h2' : lk i = false := h2
    rw [h1] at h2'
    cases h2'⟩

def aLazy : Alg := ⟨lazyS, lazyO, lazyO, fun h => h.at_ = 5, Cor, LI⟩
theorem lazyS_pend {s : Bs} {lk : Nat → Bool} {h : Hd} {kd K : Int} (h5 : h.at_ = 5) : lazyS s lk h kd K = ⟨s.cut h.p h.c, fre lk h, h, .none, true⟩ := by
  unfold lazyS
  rw [if_neg (by omega), if_neg (by omega), if_neg (by omega), if_neg (by omega), if_neg (by omega)]
theorem fre_other {lk : Nat → Bool} {h : Hd} {i : Nat} (h1 : lk i = true) (h2 : fre lk h i = false) : i = h.p ∨ i = h.c := by
  apply Classical.byContradiction
  intro hn
  simp only [not_or] at hn
  unfold fre at h2
  rw [upd_other _ _ hn.2, upd_other _ _ hn.1, h1] at h2
  cases h2
theorem upd_true {lk : Nat → Bool} {j i : Nat} (h1 : lk i = true) (h2 : upd lk j true i = false) : False := by
  by_cases e : i = j
  · rw [e, upd_same] at h2; cases h2
  · rw [upd_other _ _ e, h1] at h2; cases h2
theorem aLazy_ok : AlgOk aLazy where
  core := fun h => h
  start := LI.start
  nown := fun i h => by
    rcases h with ⟨a, _⟩ | ⟨a, _⟩
    · exact absurd a (by decide)
    · rcases a with a | a
      · exact absurd a (by decide)
      · exact absurd a (by decide)
  npend := by show ¬ (0 = 5); omega
  first := fun s lk kd K => by show (lazyS s lk hd0 kd K).over = false; unfold lazyS; rw [if_pos rfl]
  apart := fun h => h
  other := fun hm hs hk ho hg hg2 => LI.other hm hs hk ho hg hg2
  stp := fun {s lk h kd K g} hc hm hd => by
    have := LI.own (lk := lk) hc hm hd.1 hd.2 (g' := True) (fun _ => trivial) (fun _ => trivial)
    exact ⟨this.1.cor, this.1, this.2.1⟩
  go := fun {s lk h kd K g g'} hc hm hd hg hg2 ho => by
    have h5 : ¬ h.at_ = 5 := fun h5 => by
      have ho' : (lazyS s lk h kd K).over = false := ho
      rw [lazyS_pend h5] at ho'
      cases ho'
    obtain ⟨h1, h2⟩ := (LI.own hc hm hd.1 hd.2 hg hg2).2.2.1 ho
    refine ⟨h5, h1, ?_⟩
    rcases h2 with ⟨a, b⟩ | h2
    · exact .inl ⟨a, fun e => h5 (b e)⟩
    · exact .inr h2
  fin := fun {s lk h kd K g} hc hm hd ho => by
    have hO := (LI.own hc hm hd.1 hd.2 (g' := True) (fun _ => trivial) (fun _ => trivial)).2.2.2 ho
    refine ⟨fun hp => ?_, fun hp => out_0 (r := lazyS s lk h kd K) hO hp⟩
    obtain ⟨k1, _, _, _, _, k6⟩ := hm.five hp
    show (lazyS s lk h kd K).e = .none ∧ kd = 2 ∧ (lazyS s lk h kd K).h.is_ = true
    rw [lazyS_pend hp]
    exact ⟨rfl, k1, k6⟩
  lock := fun {s lk h kd K g} hc hm hd hl => by
    have none_own : ∀ (x y : Nat) (z : Bool) (i : Nat), ¬ lazyO ⟨0, x, y, z⟩ i := fun x y z i h => by
      rcases h with ⟨a, _⟩ | ⟨a, _⟩
      · exact absurd a (by simp)
      · exact absurd a (by simp)
    have low_own : ∀ (n x y : Nat) (z : Bool) (i : Nat), n ≤ 2 → ¬ lazyO ⟨n, x, y, z⟩ i := fun n x y z i hn h => by
      rcases h with ⟨a, _⟩ | ⟨a, _⟩
      · have : n = 3 := a; omega
      · have : n = 4 ∨ n = 5 := a; omega
    have stay : ∀ {h' : Hd}, (∀ i, ¬ lazyO h' i) → (∀ i, lazyO h' i → lk i = true ∧ (lazyO h i ∨ lk i = false)) := fun hn i hi => absurd hi (hn i)
    show (∀ i, lazyO (lazyS s lk h kd K).nh i → (lazyS s lk h kd K).lk i = true ∧ (lazyO h i ∨ lk i = false)) ∧ (∀ i, lk i = true → (lazyS s lk h kd K).lk i = false → lazyO h i)
    have same : ∀ i, lk i = true → lk i = false → lazyO h i := fun i a b => by rw [a] at b; cases b
    have none0 : ∀ i, ¬ lazyO hd0 i := fun i => none_own 0 0 false i
    unfold lazyS
    by_cases h0 : h.at_ = 0
    · rw [if_pos h0]
      exact ⟨fun i hi => absurd hi (low_own 1 _ _ _ i (by omega)), same⟩
    · rw [if_neg h0]
      by_cases h1 : h.at_ = 1
      · rw [if_pos h1]
        by_cases c1 : s.key h.c < K
        · rw [if_pos c1]
          exact ⟨fun i hi => absurd hi (low_own 1 _ _ _ i (by omega)), same⟩
        · rw [if_neg c1]
          by_cases c2 : kd = 3
          · rw [if_pos c2]
            exact ⟨fun i hi => absurd hi (none0 i), same⟩
          · rw [if_neg c2]
            by_cases c3 : lk h.p = false
            · rw [if_pos c3]
              refine ⟨fun i hi => ?_, fun i a b => (upd_true a b).elim⟩
              have hi' : lazyO ⟨3, h.p, h.c, h.is_⟩ i := hi
              have e : i = h.p := by
                rcases hi' with ⟨_, e⟩ | ⟨a, _⟩
                · exact e
                · have : (3 : Nat) = 4 ∨ (3 : Nat) = 5 := a; omega
              rw [e]
              exact ⟨upd_same _ _ _, .inr c3⟩
            · rw [if_neg c3]
              exact ⟨fun i hi => absurd hi (low_own 2 _ _ _ i (by omega)), same⟩
      · rw [if_neg h1]
        by_cases h2 : h.at_ = 2
        · rw [if_pos h2]
          by_cases c3 : lk h.p = false
          · rw [if_pos c3]
            refine ⟨fun i hi => ?_, fun i a b => (upd_true a b).elim⟩
            have hi' : lazyO ⟨3, h.p, h.c, h.is_⟩ i := hi
            have e : i = h.p := by
              rcases hi' with ⟨_, e⟩ | ⟨a, _⟩
              · exact e
              · have : (3 : Nat) = 4 ∨ (3 : Nat) = 5 := a; omega
            rw [e]
            exact ⟨upd_same _ _ _, .inr c3⟩
          · rw [if_neg c3]
            exact ⟨fun i hi => ⟨hl i hi, .inl hi⟩, same⟩
        · rw [if_neg h2]
          by_cases h3 : h.at_ = 3
          · rw [if_pos h3]
            by_cases c3 : lk h.c = false
            · rw [if_pos c3]
              refine ⟨fun i hi => ?_, fun i a b => (upd_true a b).elim⟩
              have hi' : lazyO ⟨4, h.p, h.c, h.is_⟩ i := hi
              have e : i = h.p ∨ i = h.c := by
                rcases hi' with ⟨a, _⟩ | ⟨_, e⟩
                · have : (4 : Nat) = 3 := a; omega
                · exact e
              show upd lk h.c true i = true ∧ _
              by_cases ec : i = h.c
              · rw [ec]
                exact ⟨upd_same _ _ _, .inr c3⟩
              · rcases e with e | e
                · have hop : lazyO h i := .inl ⟨h3, e⟩
                  rw [upd_other _ _ ec]
                  exact ⟨hl i hop, .inl hop⟩
                · exact absurd e ec
            · rw [if_neg c3]
              exact ⟨fun i hi => ⟨hl i hi, .inl hi⟩, same⟩
          · rw [if_neg h3]
            have both : ∀ i, (h.at_ = 4 ∨ h.at_ = 5) → lk i = true → fre lk h i = false → lazyO h i := fun i a b c => .inr ⟨a, fre_other b c⟩
            by_cases h4 : h.at_ = 4
            · rw [if_pos h4]
              by_cases c1 : s.mrk h.p = true ∨ s.mrk h.c = true ∨ s.nx h.p ≠ h.c
              · rw [if_pos c1]
                exact ⟨fun i hi => absurd hi (none_own _ _ _ i), fun i => both i (.inl h4)⟩
              · rw [if_neg c1]
                by_cases c2 : kd = 2
                · rw [if_pos c2]
                  by_cases c3 : s.key h.c = K
                  · rw [if_pos c3]
                    refine ⟨fun i hi => ?_, same⟩
                    have hi' : lazyO ⟨5, h.p, h.c, true⟩ i := hi
                    have e : i = h.p ∨ i = h.c := by
                      rcases hi' with ⟨a, _⟩ | ⟨_, e⟩
                      · have : (5 : Nat) = 3 := a; omega
                      · exact e
                    have hop : lazyO h i := .inr ⟨.inl h4, e⟩
                    exact ⟨hl i hop, .inl hop⟩
                  · rw [if_neg c3]
                    exact ⟨fun i hi => absurd hi (none0 i), fun i => both i (.inl h4)⟩
                · rw [if_neg c2]
                  by_cases c3 : s.key h.c = K
                  · rw [if_pos c3]
                    exact ⟨fun i hi => absurd hi (none0 i), fun i => both i (.inl h4)⟩
                  · rw [if_neg c3]
                    exact ⟨fun i hi => absurd hi (none0 i), fun i => both i (.inl h4)⟩
            · rw [if_neg h4]
              refine ⟨fun i hi => absurd hi (none0 i), fun i a b => ?_⟩
              by_cases h5 : h.at_ = 5
              · exact both i (.inr h5) a b
              · have := hm.le
                omega

def aOver : Alg := ⟨overS, overO, overO, fun _ => False, Cor1, fun s h _ K _ => KI s h K⟩
theorem aOver_ok : AlgOk aOver where
  core := fun h => h.cor
  start := fun s _ K _ => KI.start s K
  nown := fun i h => by
    rcases h with ⟨a, _⟩ | ⟨a, _⟩
    · exact absurd a (by decide)
    · exact absurd a (by decide)
  npend := fun h => h
  first := fun s lk kd K => by show (overS s lk hd0 kd K).over = false; unfold overS; rw [if_pos rfl]; split <;> rfl
  apart := fun h => h
  other := fun hm hs hk ho _ _ => KI.other hm hs hk ho
  stp := fun {s lk h kd K g} hc hm hd => by
    have := KI.own (lk := lk) (kd := kd) hc hm hd.1 hd.2
    exact ⟨this.1, this.2.1, this.2.2.1⟩
  go := fun {s lk h kd K g g'} hc hm hd _ _ ho => by
    obtain ⟨h1, h2⟩ := (KI.own (lk := lk) hc hm hd.1 hd.2).2.2.2.1 ho
    exact ⟨fun h => h, h1, .inl ⟨h2, fun h => h⟩⟩
  fin := fun {s lk h kd K g} hc hm hd ho => by
    have hO := (KI.own (lk := lk) hc hm hd.1 hd.2).2.2.2.2 ho
    refine ⟨fun hp => hp.elim, fun _ => ?_⟩
    rcases hO with h | h | h | h | h
    · exact .inl h
    · exact .inr (.inl h)
    · exact h.1.elim
    · exact .inr (.inr (.inl h))
    · exact h.2.1.elim
  lock := fun {s lk h kd K g} hc hm hd hl => by
    have hle : h.at_ ≤ 2 := hm.le
    have same : ∀ i, lk i = true → lk i = false → overO h i := fun i a b => by rw [a] at b; cases b
    have none0 : ∀ i, ¬ overO hd0 i := fun i h => by
      rcases h with ⟨a, _⟩ | ⟨a, _⟩
      · exact absurd a (by decide)
      · exact absurd a (by decide)
    show (∀ i, overO (overS s lk h kd K).nh i → (overS s lk h kd K).lk i = true ∧ (overO h i ∨ lk i = false)) ∧ (∀ i, lk i = true → (overS s lk h kd K).lk i = false → overO h i)
    unfold overS
    by_cases h0 : h.at_ = 0
    · rw [if_pos h0]
      by_cases c1 : lk 0 = false
      · rw [if_pos c1]
        refine ⟨fun i hi => ?_, fun i a b => (upd_true a b).elim⟩
        have hi' : overO ⟨1, 0, s.nx 0, h.is_⟩ i := hi
        have e : i = 0 := by
          rcases hi' with ⟨_, e⟩ | ⟨a, _⟩
          · exact e
          · have : (1 : Nat) = 2 := a; omega
        rw [e]
        exact ⟨show upd lk 0 true 0 = true from upd_same _ _ _, .inr c1⟩
      · rw [if_neg c1]
        exact ⟨fun i hi => ⟨hl i hi, .inl hi⟩, same⟩
    · rw [if_neg h0]
      by_cases h1 : h.at_ = 1
      · rw [if_pos h1]
        by_cases c1 : lk h.c = false
        · rw [if_pos c1]
          refine ⟨fun i hi => ?_, fun i a b => (upd_true a b).elim⟩
          have hi' : overO ⟨2, h.p, h.c, h.is_⟩ i := hi
          have e : i = h.p ∨ i = h.c := by
            rcases hi' with ⟨a, _⟩ | ⟨_, e⟩
            · have : (2 : Nat) = 1 := a; omega
            · exact e
          show upd lk h.c true i = true ∧ _
          by_cases ec : i = h.c
          · rw [ec]
            exact ⟨upd_same _ _ _, .inr c1⟩
          · rcases e with e | e
            · have hop : overO h i := .inl ⟨h1, e⟩
              rw [upd_other _ _ ec]
              exact ⟨hl i hop, .inl hop⟩
            · exact absurd e ec
        · rw [if_neg c1]
          exact ⟨fun i hi => ⟨hl i hi, .inl hi⟩, same⟩
      · rw [if_neg h1]
        have h2 : h.at_ = 2 := by omega
        have both : ∀ i, lk i = true → fre lk h i = false → overO h i := fun i b c => .inr ⟨h2, fre_other b c⟩
        by_cases c1 : s.key h.c < K
        · rw [if_pos c1]
          obtain ⟨p1, p2, _, p4⟩ := KI.pc hm (by omega)
          have hpc : h.c ≠ h.p := fun e => by
            have hco : Cor s := Cor1.cor hc
            have := hco.up h.p p1 (key_tl hco hd.1 (.inl p2))
            rw [p4, e] at this
            omega
          refine ⟨fun i hi => ?_, fun i a b => ?_⟩
          · have hi' : overO ⟨1, h.c, s.nx h.c, h.is_⟩ i := hi
            have e : i = h.c := by
              rcases hi' with ⟨_, e⟩ | ⟨a, _⟩
              · exact e
              · have : (1 : Nat) = 2 := a; omega
            have hop : overO h i := .inr ⟨h2, .inr e⟩
            show upd lk h.p false i = true ∧ _
            rw [upd_other _ _ (by rw [e]; exact hpc)]
            exact ⟨hl i hop, .inl hop⟩
          · have b' : upd lk h.p false i = false := b
            by_cases e : i = h.p
            · exact .inr ⟨h2, .inl e⟩
            · rw [upd_other _ _ e, a] at b'
              cases b'
        · rw [if_neg c1]
          by_cases c2 : kd = 3
          · rw [if_pos c2]
            exact ⟨fun i hi => absurd hi (none0 i), both⟩
          · rw [if_neg c2]
            by_cases c3 : kd = 2
            · rw [if_pos c3]
              by_cases c4 : s.key h.c = K
              · rw [if_pos c4]
                exact ⟨fun i hi => absurd hi (none0 i), both⟩
              · rw [if_neg c4]
                exact ⟨fun i hi => absurd hi (none0 i), both⟩
            · rw [if_neg c3]
              by_cases c4 : s.key h.c = K
              · rw [if_pos c4]
                exact ⟨fun i hi => absurd hi (none0 i), both⟩
              · rw [if_neg c4]
                exact ⟨fun i hi => absurd hi (none0 i), both⟩

end Go.Proofs.Ytfmdpmebllepeaa

/-
  ALL STEPS OF ALL HANDS: which sets there were, who changed them, when each answer was right: plain mathematics. Nothing of the program.
-/
namespace Go.Proofs.Ytfmdpmebllepeaa

structure Wd where
  s : Bs
  lk : Nat → Bool
  hs : Nat → Hd
  ix : Nat → Nat
  bg : Nat → Option Nat
  now : Nat
  tol : Nat → Nat → Option (Nat × Nat × Bool)
def Wd.go (A : Alg) (D : Nat → Nat → Int × Int) (W : Wd) (w : Nat) : Wd :=
  let r := A.step W.s W.lk (W.hs w) (D w (W.ix w)).1 (D w (W.ix w)).2
  let b := (W.bg w).getD W.now
  ⟨r.s, r.lk, upd W.hs w r.nh, upd W.ix w (if r.over = true then W.ix w + 1 else W.ix w), upd W.bg w (if r.over = true then none else some b), W.now + 1,
    if r.over = true then fun w' j => if w' = w ∧ j = W.ix w then some (b, W.now, r.h.is_) else W.tol w' j else W.tol⟩
def Chg (kd K : Int) (P Q : Int → Prop) : Prop := (kd = 1 ∧ ¬ P K ∧ ∀ x, Q x ↔ x = K ∨ P x) ∨ (kd = 2 ∧ P K ∧ ∀ x, Q x ↔ P x ∧ x ≠ K)
structure HI (A : Alg) (D : Nat → Nat → Int × Int) (S : Nat → Int → Prop) (mv : Nat → Option (Nat × Nat)) (W : Wd) : Prop where
  cor : A.cor W.s
  top : ∀ x, S W.now x ↔ W.s.has x
  inv : ∀ w, A.inv W.s (W.hs w) (D w (W.ix w)).1 (D w (W.ix w)).2 (∃ b i, W.bg w = some b ∧ b < i ∧ i ≤ W.now ∧ ¬ S i (D w (W.ix w)).2)
  lk1 : ∀ w i, A.own (W.hs w) i → W.lk i = true
  lk2 : ∀ w w' i, A.own (W.hs w) i → A.own (W.hs w') i → w = w'
  non : ∀ w, W.bg w = none → W.hs w = hd0
  bgn : ∀ w b, W.bg w = some b → b < W.now
  chg : ∀ t, t < W.now → (mv t = none ∧ ∀ x, S (t + 1) x ↔ S t x) ∨ ∃ w j, mv t = some (w, j) ∧ Chg (D w j).1 (D w j).2 (S t) (S (t + 1))
  mvt : ∀ t w j, mv t = some (w, j) → t < W.now ∧ (j < W.ix w ∨ (j = W.ix w ∧ A.pend (W.hs w)))
  one : ∀ t t' w j, mv t = some (w, j) → mv t' = some (w, j) → t = t'
  pen : ∀ w, A.pend (W.hs w) → (D w (W.ix w)).1 = 2 ∧ ∃ b t, W.bg w = some b ∧ b ≤ t ∧ mv t = some (w, W.ix w)
  fin : ∀ w j, j < W.ix w → ∃ b e is_, W.tol w j = some (b, e, is_) ∧ b ≤ e ∧ e < W.now ∧ ((is_ = true ∧ ∃ t, b ≤ t ∧ t ≤ e ∧ mv t = some (w, j)) ∨ ((∃ i, b < i ∧ i ≤ e ∧ Ans0 (D w j).1 is_ (S i (D w j).2)) ∧ ∀ t, mv t ≠ some (w, j)))
theorem ans0_iff {kd : Int} {b : Bool} {P Q : Prop} (h : P ↔ Q) (ha : Ans0 kd b P) : Ans0 kd b Q := by
  have : P = Q := propext h
  rw [← this]
  exact ha
theorem HI.step {A : Alg} (hA : AlgOk A) {D : Nat → Nat → Int × Int} {S : Nat → Int → Prop} {mv : Nat → Option (Nat × Nat)} {W : Wd} (h : HI A D S mv W) (w : Nat) (hd : Dee (D w (W.ix w)).1 (D w (W.ix w)).2) :
    ∃ S' mv', HI A D S' mv' (W.go A D w) ∧ (∀ t, t ≤ W.now → S' t = S t) ∧ ∀ t, t < W.now → mv' t = mv t := by
  obtain ⟨kd, hkd⟩ : ∃ kd, (D w (W.ix w)).1 = kd := ⟨_, rfl⟩
  obtain ⟨K, hK⟩ : ∃ K, (D w (W.ix w)).2 = K := ⟨_, rfl⟩
  obtain ⟨r, hr⟩ : ∃ r, A.step W.s W.lk (W.hs w) (D w (W.ix w)).1 (D w (W.ix w)).2 = r := ⟨_, rfl⟩
  obtain ⟨b, hb⟩ : ∃ b, (W.bg w).getD W.now = b := ⟨_, rfl⟩
  have hble : b ≤ W.now := by
    rw [← hb]
    cases hbg : W.bg w with
    | none => exact Nat.le_refl _
    | some b' => exact Nat.le_of_lt (h.bgn w b' hbg)
  have hbb : ∀ b', W.bg w = some b' → b' = b := fun b' e => by rw [e] at hb; exact hb
  have hgo : W.go A D w = ⟨r.s, r.lk, upd W.hs w r.nh, upd W.ix w (if r.over = true then W.ix w + 1 else W.ix w), upd W.bg w (if r.over = true then none else some b), W.now + 1,
    if r.over = true then fun w' j => if w' = w ∧ j = W.ix w then some (b, W.now, r.h.is_) else W.tol w' j else W.tol⟩ := by
    unfold Wd.go
    simp only [hr, hb]
  let S' : Nat → Int → Prop := fun t => if t ≤ W.now then S t else r.s.has
  have S'o : ∀ t, t ≤ W.now → S' t = S t := fun t ht => if_pos ht
  have S'n : S' (W.now + 1) = r.s.has := if_neg (by omega)
  let mv' : Nat → Option (Nat × Nat) := upd mv W.now (match r.e with | .none => none | _ => some (w, W.ix w))
  have mv'o : ∀ t, t ≠ W.now → mv' t = mv t := fun t ht => upd_other _ _ ht
  have mv'n : mv' W.now = (match r.e with | .none => none | _ => some (w, W.ix w)) := upd_same _ _ _
  have mvnow : mv W.now = none := by
    cases e : mv W.now with
    | none => rfl
    | some p => have := (h.mvt W.now p.1 p.2 e).1; omega
  have hstp := hA.stp (lk := W.lk) h.cor (h.inv w) hd
  rw [hr] at hstp
  obtain ⟨hcor, hst, hkept⟩ := hstp
  have hlock := hA.lock (lk := W.lk) h.cor (h.inv w) hd (h.lk1 w)
  rw [hr] at hlock
  rw [hkd, hK] at hd
  have hinv := h.inv w
  rw [hkd, hK] at hinv hr
  have hhas : ∀ x, r.s.has x ↔ r.e.on W.s.has x := hst.has
  have ways : (r.over = false ∧ ¬ A.pend (W.hs w) ∧ A.inv r.s r.h kd K (∃ b' i, some b = some b' ∧ b' < i ∧ i ≤ W.now + 1 ∧ ¬ S' i K) ∧ ((r.e = .none ∧ ¬ A.pend r.h) ∨ (r.e = .del K ∧ kd = 2 ∧ W.s.has K ∧ A.pend r.h))) ∨
      (r.over = true ∧ A.pend (W.hs w) ∧ r.e = .none ∧ kd = 2 ∧ r.h.is_ = true) ∨
      (r.over = true ∧ ¬ A.pend (W.hs w) ∧ Out0 W.s r kd K (∃ b' i, W.bg w = some b' ∧ b' < i ∧ i ≤ W.now ∧ ¬ S i K)) := by
    cases ho : r.over with
    | false =>
      left
      have := hA.go (lk := W.lk) (g' := ∃ b' i, some b = some b' ∧ b' < i ∧ i ≤ W.now + 1 ∧ ¬ S' i K) h.cor hinv hd (fun ⟨b', i, e1, e2, e3, e4⟩ => ⟨b, i, rfl, by rw [hbb b' e1] at e2; exact e2, by omega, by rw [S'o i e3]; exact e4⟩) (fun hn => ⟨b, W.now + 1, rfl, by omega, Nat.le_refl _, by rw [S'n]; rw [hr] at hn; exact hn⟩)
      rw [hr] at this
      exact ⟨rfl, this ho⟩
    | true =>
      right
      have := hA.fin (lk := W.lk) h.cor hinv hd (by rw [hr]; exact ho)
      rw [hr] at this
      by_cases hp : A.pend (W.hs w)
      · exact .inl ⟨rfl, hp, this.1 hp⟩
      · exact .inr ⟨rfl, hp, this.2 hp⟩
  have hchg : (r.e = .none ∧ ∀ x, r.s.has x ↔ W.s.has x) ∨ (r.e ≠ .none ∧ Chg kd K W.s.has r.s.has ∧ ¬ A.pend (W.hs w) ∧ ((r.over = true ∧ r.h.is_ = true) ∨ (r.over = false ∧ A.pend r.h))) := by
    rcases ways with ⟨o, np, _, ⟨e, _⟩ | ⟨e, k2, hs, pp⟩⟩ | ⟨o, _, e, _⟩ | ⟨o, np, out⟩
    · left
      refine ⟨e, fun x => ?_⟩
      rw [hhas, e]
      exact Iff.rfl
    · right
      refine ⟨by rw [e]; simp, .inr ⟨k2, hs, fun x => ?_⟩, np, .inr ⟨o, pp⟩⟩
      rw [hhas, e]
      exact Iff.rfl
    · left
      refine ⟨e, fun x => ?_⟩
      rw [hhas, e]
      exact Iff.rfl
    · rcases out with ⟨e, k1, hn, his⟩ | ⟨e, k2, hs, his⟩ | ⟨e, _⟩ | ⟨e, _⟩
      · right
        refine ⟨by rw [e]; simp, .inl ⟨k1, hn, fun x => ?_⟩, np, .inl ⟨o, his⟩⟩
        rw [hhas, e]
        exact Iff.rfl
      · right
        refine ⟨by rw [e]; simp, .inr ⟨k2, hs, fun x => ?_⟩, np, .inl ⟨o, his⟩⟩
        rw [hhas, e]
        exact Iff.rfl
      · left
        refine ⟨e, fun x => ?_⟩
        rw [hhas, e]
        exact Iff.rfl
      · left
        refine ⟨e, fun x => ?_⟩
        rw [hhas, e]
        exact Iff.rfl
  have mvE : r.e = .none → mv' W.now = none := fun e => by rw [mv'n, e]
  have mvS : r.e ≠ .none → mv' W.now = some (w, W.ix w) := fun e => by
    rw [mv'n]
    cases he : r.e with
    | none => exact absurd he e
    | add x => rfl
    | del x => rfl
  have npmv : ¬ A.pend (W.hs w) → ∀ t, mv t ≠ some (w, W.ix w) := fun np t e => by
    rcases (h.mvt t _ _ e).2 with h1 | h1
    · omega
    · exact np h1.2
  have hpn : r.over = true → ¬ A.pend r.nh := fun o => by
    unfold Rel.nh
    rw [if_pos o]
    exact hA.npend
  have nhf : r.over = false → r.nh = r.h := fun o => by
    unfold Rel.nh
    rw [if_neg (by rw [o]; simp)]
  refine ⟨S', mv', ?_, S'o, fun t ht => mv'o t (by omega)⟩
  rw [hgo]
  refine ⟨hcor, fun x => ?_, fun v => ?_, fun v i hi => ?_, fun v v' i hi hi' => ?_, fun v hv => ?_, fun v b' hv => ?_, fun t ht => ?_, fun t v j e => ?_, fun t t' v j e e' => ?_, fun v hv => ?_, fun v j hj => ?_⟩
  · show S' (W.now + 1) x ↔ r.s.has x
    rw [S'n]
  · -- inv
    show A.inv r.s (upd W.hs w r.nh v) (D v (upd W.ix w (if r.over = true then W.ix w + 1 else W.ix w) v)).1 (D v (upd W.ix w (if r.over = true then W.ix w + 1 else W.ix w) v)).2
      (∃ b' i, upd W.bg w (if r.over = true then none else some b) v = some b' ∧ b' < i ∧ i ≤ W.now + 1 ∧ ¬ S' i (D v (upd W.ix w (if r.over = true then W.ix w + 1 else W.ix w) v)).2)
    by_cases e : v = w
    · subst e
      rw [upd_same, upd_same, upd_same]
      cases ho : r.over with
      | true =>
        unfold Rel.nh
        rw [ho]
        exact hA.start _ _ _ _
      | false =>
        rw [nhf ho]
        simp only [Bool.false_eq_true, if_false]
        rw [hkd, hK]
        rcases ways with ⟨_, _, hi, _⟩ | ⟨o, _⟩ | ⟨o, _⟩
        · exact hi
        · rw [ho] at o; cases o
        · rw [ho] at o; cases o
    · rw [upd_other _ _ e, upd_other _ _ e, upd_other _ _ e]
      cases hbv : W.bg v with
      | none =>
        rw [h.non v hbv]
        exact hA.start _ _ _ _
      | some b' =>
        refine hA.other (h.inv v) hst hkept (hA.apart (fun i a b => e (h.lk2 v w i a b))) (fun ⟨b2, i, e1, e2, e3, e4⟩ => ⟨b2, i, by rw [← hbv]; exact e1, e2, by show i ≤ W.now + 1; omega, by rw [S'o i e3]; exact e4⟩) (fun hn => ?_)
        exact ⟨b', W.now + 1, rfl, by have := h.bgn v b' hbv; omega, Nat.le_refl _, by rw [S'n]; exact hn⟩
  · -- locks
    have hi0 : A.own (upd W.hs w r.nh v) i := hi
    show r.lk i = true
    by_cases e : v = w
    · subst e
      rw [upd_same] at hi0
      exact (hlock.1 i hi0).1
    · rw [upd_other _ _ e] at hi0
      cases hl : r.lk i with
      | true => rfl
      | false => exact absurd (h.lk2 v w i hi0 (hlock.2 i (h.lk1 v i hi0) hl)) e
  · have hi0 : A.own (upd W.hs w r.nh v) i := hi
    have hi1 : A.own (upd W.hs w r.nh v') i := hi'
    have mix : ∀ u, u ≠ w → A.own r.nh i → A.own (W.hs u) i → False := fun u hu a b => by
      rcases (hlock.1 i a).2 with c | c
      · exact hu (h.lk2 u w i b c)
      · rw [h.lk1 u i b] at c
        cases c
    by_cases e : v = w
    · by_cases e' : v' = w
      · rw [e, e']
      · subst e
        rw [upd_same] at hi0
        rw [upd_other _ _ e'] at hi1
        exact (mix v' e' hi0 hi1).elim
    · by_cases e' : v' = w
      · subst e'
        rw [upd_same] at hi1
        rw [upd_other _ _ e] at hi0
        exact (mix v e hi1 hi0).elim
      · rw [upd_other _ _ e] at hi0
        rw [upd_other _ _ e'] at hi1
        exact h.lk2 v v' i hi0 hi1
  · have hv0 : upd W.bg w (if r.over = true then none else some b) v = none := hv
    show upd W.hs w r.nh v = hd0
    by_cases e : v = w
    · subst e
      rw [upd_same] at hv0 ⊢
      cases ho : r.over with
      | true => unfold Rel.nh; rw [if_pos ho]
      | false => rw [ho] at hv0; simp at hv0
    · rw [upd_other _ _ e] at hv0 ⊢
      exact h.non v hv0
  · have hv0 : upd W.bg w (if r.over = true then none else some b) v = some b' := hv
    show b' < W.now + 1
    by_cases e : v = w
    · subst e
      rw [upd_same] at hv0
      cases ho : r.over with
      | true => rw [ho] at hv0; simp at hv0
      | false => rw [ho] at hv0; simp at hv0; omega
    · rw [upd_other _ _ e] at hv0
      have := h.bgn v b' hv0
      omega
  · have ht0 : t < W.now + 1 := ht
    have hS : S W.now = W.s.has := funext fun x => propext (h.top x)
    by_cases e : t = W.now
    · subst e
      rcases hchg with ⟨e1, e2⟩ | ⟨e1, e2, _⟩
      · left
        refine ⟨mvE e1, fun x => ?_⟩
        rw [S'n, S'o _ (Nat.le_refl _), hS]
        exact e2 x
      · right
        refine ⟨w, W.ix w, mvS e1, ?_⟩
        rw [S'n, S'o _ (Nat.le_refl _), hS, hkd, hK]
        exact e2
    · rw [mv'o t e, S'o t (by omega), S'o (t + 1) (by omega)]
      exact h.chg t (by omega)
  · show t < W.now + 1 ∧ (j < upd W.ix w (if r.over = true then W.ix w + 1 else W.ix w) v ∨ (j = upd W.ix w (if r.over = true then W.ix w + 1 else W.ix w) v ∧ A.pend (upd W.hs w r.nh v)))
    by_cases et : t = W.now
    · subst et
      rcases hchg with ⟨e1, _⟩ | ⟨e1, _, _, hh⟩
      · rw [mvE e1] at e; cases e
      · rw [mvS e1] at e
        cases e
        rw [upd_same, upd_same]
        refine ⟨by omega, ?_⟩
        rcases hh with ⟨o, _⟩ | ⟨o, pp⟩
        · left; rw [if_pos o]; omega
        · right
          rw [if_neg (by rw [o]; simp), nhf o]
          exact ⟨rfl, pp⟩
    · rw [mv'o t et] at e
      obtain ⟨h1, h2⟩ := h.mvt t v j e
      refine ⟨by omega, ?_⟩
      by_cases ev : v = w
      · subst ev
        rw [upd_same, upd_same]
        rcases h2 with h2 | ⟨h2, h3⟩
        · left; split <;> omega
        · left
          have ho : r.over = true := by
            rcases ways with ⟨_, np, _⟩ | ⟨o, _⟩ | ⟨o, _⟩
            · exact absurd h3 np
            · exact o
            · exact o
          rw [if_pos ho]
          omega
      · rw [upd_other _ _ ev, upd_other _ _ ev]
        exact h2
  · by_cases et : t = W.now
    · by_cases et' : t' = W.now
      · rw [et, et']
      · subst et
        rw [mv'o t' et'] at e'
        rcases hchg with ⟨e1, _⟩ | ⟨e1, _, np, _⟩
        · rw [mvE e1] at e; cases e
        · rw [mvS e1] at e
          cases e
          exact absurd e' (npmv np t')
    · by_cases et' : t' = W.now
      · subst et'
        rw [mv'o t et] at e
        rcases hchg with ⟨e1, _⟩ | ⟨e1, _, np, _⟩
        · rw [mvE e1] at e'; cases e'
        · rw [mvS e1] at e'
          cases e'
          exact absurd e (npmv np t)
      · rw [mv'o t et] at e
        rw [mv'o t' et'] at e'
        exact h.one t t' v j e e'
  · have hv0 : A.pend (upd W.hs w r.nh v) := hv
    show (D v (upd W.ix w (if r.over = true then W.ix w + 1 else W.ix w) v)).1 = 2 ∧ ∃ b' t, upd W.bg w (if r.over = true then none else some b) v = some b' ∧ b' ≤ t ∧ mv' t = some (v, upd W.ix w (if r.over = true then W.ix w + 1 else W.ix w) v)
    by_cases e : v = w
    · subst e
      rw [upd_same] at hv0
      rw [upd_same, upd_same]
      cases ho : r.over with
      | true => exact absurd hv0 (hpn ho)
      | false =>
        rw [nhf ho] at hv0
        simp only [Bool.false_eq_true, if_false]
        rcases ways with ⟨_, _, _, ⟨_, np⟩ | ⟨e1, k2, _, _⟩⟩ | ⟨o, _⟩ | ⟨o, _⟩
        · exact absurd hv0 np
        · exact ⟨by rw [hkd]; exact k2, b, W.now, rfl, hble, mvS (by rw [e1]; simp)⟩
        · rw [ho] at o; cases o
        · rw [ho] at o; cases o
    · rw [upd_other _ _ e] at hv0
      rw [upd_other _ _ e, upd_other _ _ e]
      obtain ⟨k, b', t, h1, h2, h3⟩ := h.pen v hv0
      exact ⟨k, b', t, h1, h2, by rw [mv'o t (by have := (h.mvt t _ _ h3).1; omega)]; exact h3⟩
  · have hj0 : j < upd W.ix w (if r.over = true then W.ix w + 1 else W.ix w) v := hj
    show ∃ b' e is_, (if r.over = true then fun w' j => if w' = w ∧ j = W.ix w then some (b, W.now, r.h.is_) else W.tol w' j else W.tol) v j = some (b', e, is_) ∧ b' ≤ e ∧ e < W.now + 1 ∧ ((is_ = true ∧ ∃ t, b' ≤ t ∧ t ≤ e ∧ mv' t = some (v, j)) ∨ ((∃ i, b' < i ∧ i ≤ e ∧ Ans0 (D v j).1 is_ (S' i (D v j).2)) ∧ ∀ t, mv' t ≠ some (v, j)))
    by_cases old : v ≠ w ∨ j < W.ix w
    · have hjo : j < W.ix v := by
        by_cases e : v = w
        · subst e
          rcases old with o | o
          · exact absurd rfl o
          · exact o
        · rw [upd_other _ _ e] at hj0
          exact hj0
      obtain ⟨b', e, is_, h1, h2, h3, h4⟩ := h.fin v j hjo
      have hne : ¬ (v = w ∧ j = W.ix w) := fun ⟨a, c⟩ => by
        rcases old with o | o
        · exact o a
        · omega
      refine ⟨b', e, is_, ?_, h2, by omega, ?_⟩
      · split
        · exact (if_neg hne).trans h1
        · exact h1
      · rcases h4 with ⟨a, t, t1, t2, t3⟩ | ⟨⟨i, i1, i2, i3⟩, nm⟩
        · exact .inl ⟨a, t, t1, t2, by rw [mv'o t (by omega)]; exact t3⟩
        · refine .inr ⟨⟨i, i1, i2, by rw [S'o i (by omega)]; exact i3⟩, fun t ht => ?_⟩
          by_cases et : t = W.now
          · subst et
            rcases hchg with ⟨e1, _⟩ | ⟨e1, _⟩
            · rw [mvE e1] at ht; cases ht
            · rw [mvS e1] at ht
              cases ht
              exact hne ⟨rfl, rfl⟩
          · rw [mv'o t et] at ht
            exact nm t ht
    · have ev : v = w := Classical.byContradiction fun hn => old (.inl hn)
      have hji : ¬ j < W.ix w := fun hn => old (.inr hn)
      subst ev
      rw [upd_same] at hj0
      have ho : r.over = true := by
        cases ho : r.over with
        | true => rfl
        | false => rw [ho] at hj0; simp at hj0; omega
      rw [if_pos ho] at hj0 ⊢
      have ej : j = W.ix v := by omega
      subst ej
      refine ⟨b, W.now, r.h.is_, if_pos ⟨rfl, rfl⟩, hble, by omega, ?_⟩
      rw [hkd, hK]
      have hS : S W.now = W.s.has := funext fun x => propext (h.top x)
      have hbegun : ∃ b', W.bg v = some b' := by
        cases hbv : W.bg v with
        | some b' => exact ⟨b', rfl⟩
        | none =>
          have h0 := h.non v hbv
          rw [h0] at hr
          have := hA.first W.s W.lk kd K
          rw [hr, ho] at this
          cases this
      obtain ⟨b', hb'⟩ := hbegun
      have ebb := hbb b' hb'
      subst ebb
      have hlt := h.bgn v b' hb'
      have nomv : r.e = .none → ¬ A.pend (W.hs v) → ∀ t, mv' t ≠ some (v, W.ix v) := fun e1 np t ht => by
        by_cases et : t = W.now
        · subst et
          rw [mvE e1] at ht
          cases ht
        · rw [mv'o t et] at ht
          exact npmv np t ht
      rcases ways with ⟨o, _⟩ | ⟨_, hp, _, _, his⟩ | ⟨_, np, out⟩
      · rw [ho] at o; cases o
      · obtain ⟨_, b2, t, h1, h2, h3⟩ := h.pen v hp
        have : b2 = b' := hbb b2 h1
        subst this
        have htl := (h.mvt t _ _ h3).1
        exact .inl ⟨his, t, h2, by omega, by rw [mv'o t (by omega)]; exact h3⟩
      · rcases out with ⟨e1, _, _, his⟩ | ⟨e1, _, _, his⟩ | ⟨e1, an⟩ | ⟨e1, ⟨b2, i, i1, i2, i3, i4⟩, an⟩
        · exact .inl ⟨his, W.now, by omega, Nat.le_refl _, mvS (by rw [e1]; simp)⟩
        · exact .inl ⟨his, W.now, by omega, Nat.le_refl _, mvS (by rw [e1]; simp)⟩
        · refine .inr ⟨⟨W.now, hlt, Nat.le_refl _, ?_⟩, nomv e1 np⟩
          rw [S'o _ (Nat.le_refl _), hS]
          exact an
        · have : b2 = b' := hbb b2 i1
          subst this
          refine .inr ⟨⟨i, i2, i3, ?_⟩, nomv e1 np⟩
          rw [S'o i i3]
          exact ans0_iff ⟨fun f => f.elim, i4⟩ an

end Go.Proofs.Ytfmdpmebllepeaa

/-
  AN ORDER OF ALL DEEDS, and how often each key was put and cut: from the history: plain mathematics. Nothing of the program.
-/
namespace Go.Proofs.Ytfmdpmebllepeaa

structure Dn where
  w : Nat
  j : Nat
  b : Int
  e : Int
  is_ : Bool
def kset (P : Int → Prop) (l : List Bool) : Prop := l.length = 10 ∧ ∀ n : Nat, n < 10 → (l[n]? = some true ↔ P n)
theorem kset_get {P : Int → Prop} {l : List Bool} (h : kset P l) {K : Int} (h0 : 0 ≤ K) (h9 : K ≤ 9) : (l[K.toNat]?.getD false = true ↔ P K) := by
  obtain ⟨hl, hg⟩ := h
  have hn : K.toNat < 10 := by omega
  have := hg K.toNat hn
  rw [Int.toNat_of_nonneg h0] at this
  rw [← this]
  have hlt : K.toNat < l.length := by omega
  rw [List.getElem?_eq_getElem hlt]
  simp
theorem kset_iff {P Q : Int → Prop} {l : List Bool} (h : kset P l) (hq : ∀ x, P x ↔ Q x) : kset Q l := ⟨h.1, fun n hn => (h.2 n hn).trans (hq n)⟩
theorem kset_same {P : Int → Prop} {l l' : List Bool} (h : kset P l) (h' : kset P l') : l = l' := by
  apply List.ext_getElem?
  intro n
  by_cases hn : n < 10
  · have h1 := (h.2 n hn).trans (h'.2 n hn).symm
    have l1 : n < l.length := by rw [h.1]; exact hn
    have l2 : n < l'.length := by rw [h'.1]; exact hn
    rw [List.getElem?_eq_getElem l1, List.getElem?_eq_getElem l2] at h1 ⊢
    simp only [Option.some.injEq] at h1 ⊢
    exact Bool.eq_iff_iff.mpr h1
  · rw [List.getElem?_eq_none (by rw [h.1]; omega), List.getElem?_eq_none (by rw [h'.1]; omega)]
theorem kset_put {P : Int → Prop} {l : List Bool} (h : kset P l) {K : Int} (h0 : 0 ≤ K) : kset (fun x => x = K ∨ P x) (l.set K.toNat true) := by
  refine ⟨by rw [List.length_set]; exact h.1, fun n hn => ?_⟩
  rw [List.getElem?_set]
  by_cases e : K.toNat = n
  · rw [if_pos e, if_pos (by rw [h.1]; omega)]
    exact ⟨fun _ => .inl (by omega), fun _ => rfl⟩
  · rw [if_neg e, h.2 n hn]
    exact ⟨.inr, fun a => a.elim (fun a => absurd a (by omega)) id⟩
theorem kset_cut {P : Int → Prop} {l : List Bool} (h : kset P l) {K : Int} (h0 : 0 ≤ K) : kset (fun x => P x ∧ x ≠ K) (l.set K.toNat false) := by
  refine ⟨by rw [List.length_set]; exact h.1, fun n hn => ?_⟩
  rw [List.getElem?_set]
  by_cases e : K.toNat = n
  · rw [if_pos e, if_pos (by rw [h.1]; omega)]
    constructor
    · intro a
      simp at a
    · intro a
      exact absurd (show (n : Int) = K by omega) a.2
  · rw [if_neg e, h.2 n hn]
    exact ⟨fun a => ⟨a, by omega⟩, fun a => a.1⟩

def dWas (kd K : Int) (has : List Bool) : Bool := if kd = 1 then !(has[K.toNat]?.getD false) else has[K.toNat]?.getD false
def dNext (kd K : Int) (has : List Bool) : List Bool := if kd = 1 then has.set K.toNat true else if kd = 2 then has.set K.toNat false else has
def ordB (D : Nat → Nat → Int × Int) : Nat → List Bool → List Dn → List Bool → Bool
  | 0, has, _, left => has == left
  | n + 1, has, todo, left => (List.range todo.length).any fun k => match todo[k]? with
    | none => false
    | some x => !(todo.any fun y => decide (y.e < x.b)) && (dWas (D x.w x.j).1 (D x.w x.j).2 has == x.is_ && ordB D n (dNext (D x.w x.j).1 (D x.w x.j).2 has) (todo.eraseIdx k) left)
theorem ordB_pick {D : Nat → Nat → Int × Int} {n : Nat} {has left : List Bool} {todo : List Dn} {k : Nat} {x : Dn} (hk : todo[k]? = some x) (h1 : ∀ y, y ∈ todo → x.b ≤ y.e) (h2 : dWas (D x.w x.j).1 (D x.w x.j).2 has = x.is_)
    (h3 : ordB D n (dNext (D x.w x.j).1 (D x.w x.j).2 has) (todo.eraseIdx k) left = true) : ordB D (n + 1) has todo left = true := by
  unfold ordB
  rw [List.any_eq_true]
  refine ⟨k, ?_, ?_⟩
  · rw [List.mem_range]
    exact (List.getElem?_eq_some_iff.mp hk).1
  · rw [hk]
    simp only [h2, h3, BEq.rfl, Bool.and_self, Bool.and_true, Bool.not_eq_true']
    rw [List.any_eq_false]
    intro y hy
    have := h1 y hy
    simp only [decide_eq_true_eq]
    omega

theorem least_of {α : Type} (f : α → Nat) : ∀ (l : List α), l ≠ [] → ∃ (k : Nat) (x : α), l[k]? = some x ∧ ∀ y, y ∈ l → f x ≤ f y
  | [], h => absurd rfl h
  | [a], _ => ⟨0, a, rfl, fun y hy => by rw [List.mem_singleton] at hy; rw [hy]; exact Nat.le_refl _⟩
  | a :: b :: l, _ => by
    obtain ⟨k, x, h1, h2⟩ := least_of f (b :: l) (by simp)
    by_cases h : f a ≤ f x
    · refine ⟨0, a, rfl, fun y hy => ?_⟩
      rcases List.mem_cons.mp hy with e | e
      · rw [e]; exact Nat.le_refl _
      · exact Nat.le_trans h (h2 y e)
    · refine ⟨k + 1, x, by rw [List.getElem?_cons_succ]; exact h1, fun y hy => ?_⟩
      rcases List.mem_cons.mp hy with e | e
      · rw [e]; omega
      · exact h2 y e

def PtOf (D : Nat → Nat → Int × Int) (S : Nat → Int → Prop) (mv : Nat → Option (Nat × Nat)) (now : Nat) (x : Dn) (p : Nat) : Prop :=
  (∃ t, p = 2 * t + 1 ∧ t < now ∧ mv t = some (x.w, x.j) ∧ x.is_ = true ∧ x.b ≤ t ∧ (t : Int) ≤ x.e) ∨
  (∃ i, p = 2 * i ∧ i ≤ now ∧ (∀ t, mv t ≠ some (x.w, x.j)) ∧ Ans0 (D x.w x.j).1 x.is_ (S i (D x.w x.j).2) ∧ x.b < i ∧ (i : Int) ≤ x.e)
theorem still {D : Nat → Nat → Int × Int} {S : Nat → Int → Prop} {mv : Nat → Option (Nat × Nat)} {now : Nat} (chg : ∀ t, t < now → (mv t = none ∧ ∀ x, S (t + 1) x ↔ S t x) ∨ ∃ w j, mv t = some (w, j) ∧ Chg (D w j).1 (D w j).2 (S t) (S (t + 1)))
    {i j : Nat} (hij : i ≤ j) (hj : j ≤ now) (hn : ∀ t, i ≤ t → t < j → mv t = none) : ∀ x, S j x ↔ S i x := by
  induction j with
  | zero => intro x; have : i = 0 := by omega
            subst this; exact Iff.rfl
  | succ j ih =>
    by_cases e : i = j + 1
    · intro x; rw [e]
    · intro x
      have h1 := ih (by omega) (by omega) (fun t a b => hn t a (by omega)) x
      rcases chg j (by omega) with ⟨_, h2⟩ | ⟨w, k, h2, _⟩
      · exact (h2 x).trans h1
      · rw [hn j (by omega) (by omega)] at h2
        cases h2

theorem ord_of {D : Nat → Nat → Int × Int} {S : Nat → Int → Prop} {mv : Nat → Option (Nat × Nat)} {now : Nat}
    (chg : ∀ t, t < now → (mv t = none ∧ ∀ x, S (t + 1) x ↔ S t x) ∨ ∃ w j, mv t = some (w, j) ∧ Chg (D w j).1 (D w j).2 (S t) (S (t + 1)))
    (one : ∀ t t' w j, mv t = some (w, j) → mv t' = some (w, j) → t = t') {pt : Dn → Nat} {left : List Bool} (hleft : kset (S now) left) :
    ∀ (n i : Nat) (todo : List Dn) (has : List Bool), todo.length = n → i ≤ now → kset (S i) has → (todo.map fun x => (x.w, x.j)).Nodup → (∀ x, x ∈ todo → Dee (D x.w x.j).1 (D x.w x.j).2 ∧ PtOf D S mv now x (pt x) ∧ 2 * i ≤ pt x) →
      (∀ t w j, i ≤ t → t < now → mv t = some (w, j) → ∃ x, x ∈ todo ∧ x.w = w ∧ x.j = j) → ordB D n has todo left = true := by
  intro n
  induction n with
  | zero =>
    intro i todo has hl hi hk _ _ hm
    have : todo = [] := List.length_eq_zero_iff.mp hl
    subst this
    have h1 : ∀ x, S now x ↔ S i x := still chg hi (Nat.le_refl _) (fun t h1 h2 => by
      cases e : mv t with
      | none => rfl
      | some p => obtain ⟨x, hx, _⟩ := hm t p.1 p.2 h1 h2 e; cases hx)
    show (has == left) = true
    rw [beq_iff_eq]
    exact kset_same hk (kset_iff hleft h1)
  | succ n ih =>
    intro i todo has hl hi hk hnd hp hm
    obtain ⟨k, x, hkx, hmin⟩ := least_of pt todo (by intro e; rw [e] at hl; cases hl)
    have hx : x ∈ todo := List.mem_of_getElem? hkx
    have hklt : k < todo.length := (List.getElem?_eq_some_iff.mp hkx).1
    obtain ⟨hd, hpt, hpi⟩ := hp x hx
    have hahead : ∀ y, y ∈ todo → x.b ≤ y.e := fun y hy => by
      have h1 := hmin y hy
      obtain ⟨_, hpy, _⟩ := hp y hy
      rcases hpt with ⟨t, e1, _, _, _, e2, _⟩ | ⟨t, e1, _, _, _, e2, _⟩ <;> rcases hpy with ⟨t', f1, _, _, _, _, f2⟩ | ⟨t', f1, _, _, _, _, f2⟩ <;> omega
    have hin : ∀ y, y ∈ todo.eraseIdx k → y ∈ todo := fun y hy => List.mem_of_mem_eraseIdx hy
    have hnd' : ((todo.eraseIdx k).map fun x => (x.w, x.j)).Nodup := hnd.sublist ((List.eraseIdx_sublist _ _).map _)
    have hother : ∀ y, y ∈ todo.eraseIdx k → (y.w, y.j) ≠ (x.w, x.j) := by
      intro y hy e
      rw [List.mem_eraseIdx_iff_getElem?] at hy
      obtain ⟨m, hm1, hm2⟩ := hy
      have a1 : (todo.map fun x => (x.w, x.j))[m]? = some (x.w, x.j) := by rw [List.getElem?_map, hm2]; exact congrArg some e
      have a2 : (todo.map fun x => (x.w, x.j))[k]? = some (x.w, x.j) := by rw [List.getElem?_map, hkx]; rfl
      have hmlt : m < (todo.map fun x => (x.w, x.j)).length := (List.getElem?_eq_some_iff.mp a1).1
      exact hm1 ((List.getElem?_inj hmlt hnd).mp (a1.trans a2.symm))
    have hback : ∀ y, y ∈ todo → (y.w, y.j) ≠ (x.w, x.j) → y ∈ todo.eraseIdx k := by
      intro y hy hne
      rw [List.mem_eraseIdx_iff_getElem?]
      obtain ⟨m, hm1⟩ := List.mem_iff_getElem?.mp hy
      refine ⟨m, fun e => ?_, hm1⟩
      rw [e, hkx] at hm1
      cases hm1
      exact hne rfl
    have hlen : (todo.eraseIdx k).length = n := by rw [List.length_eraseIdx_of_lt hklt]; omega
    rcases hpt with ⟨t, e1, tn, hmv, his, _, _⟩ | ⟨r, e1, rn, hno, han, _, _⟩
    · -- it changes the set
      have hst : ∀ z, S t z ↔ S i z := still chg (by omega) (by omega) (fun t' a b => by
        cases e : mv t' with
        | none => rfl
        | some p =>
          obtain ⟨y, hy, y1, y2⟩ := hm t' p.1 p.2 a (by omega) e
          have h1 := hmin y hy
          rcases (hp y hy).2.1 with ⟨t2, f1, _, f2, _⟩ | ⟨t2, _, _, f2, _⟩
          · rw [y1, y2] at f2
            have := one t' t2 _ _ e f2
            omega
          · rw [y1, y2] at f2
            exact absurd e (f2 t'))
      have hkt : kset (S t) has := kset_iff hk (fun z => (hst z).symm)
      have hc : Chg (D x.w x.j).1 (D x.w x.j).2 (S t) (S (t + 1)) := by
        rcases chg t tn with ⟨a, _⟩ | ⟨w, j, a, b⟩
        · rw [hmv] at a; cases a
        · rw [hmv] at a; cases a; exact b
      have hg := kset_get hkt hd.1.1 hd.1.2
      refine ordB_pick hkx hahead ?_ (ih (t + 1) _ _ hlen (by omega) ?_ hnd' (fun y hy => ?_) (fun t' w j a b c => ?_))
      · rw [his]
        unfold dWas
        rcases hc with ⟨k1, hn, _⟩ | ⟨k2, hh, _⟩
        · rw [if_pos k1, Bool.not_eq_true', ← Bool.not_eq_true, hg]
          exact hn
        · rw [if_neg (by rw [k2]; decide), hg]
          exact hh
      · unfold dNext
        rcases hc with ⟨k1, _, hq⟩ | ⟨k2, _, hq⟩
        · rw [if_pos k1]
          exact kset_iff (kset_put hkt hd.1.1) (fun z => (hq z).symm)
        · rw [if_neg (by rw [k2]; decide), if_pos k2]
          exact kset_iff (kset_cut hkt hd.1.1) (fun z => (hq z).symm)
      · obtain ⟨a1, a2, a3⟩ := hp y (hin y hy)
        refine ⟨a1, a2, ?_⟩
        have h1 := hmin y (hin y hy)
        rcases a2 with ⟨t2, f1, _, f2, _⟩ | ⟨t2, f1, _⟩
        · have : t2 ≠ t := fun e => by
            rw [e, hmv] at f2
            exact hother y hy (Option.some.inj f2).symm
          omega
        · omega
      · obtain ⟨y, hy, y1, y2⟩ := hm t' w j (by omega) b c
        refine ⟨y, hback y hy (fun e => ?_), y1, y2⟩
        rw [y1, y2] at e
        have := one t' t _ _ (c.trans (congrArg some e)) hmv
        omega
    · -- it sees the set
      have hst : ∀ z, S r z ↔ S i z := still chg (by omega) rn (fun t' a b => by
        cases e : mv t' with
        | none => rfl
        | some p =>
          obtain ⟨y, hy, y1, y2⟩ := hm t' p.1 p.2 a (by omega) e
          have h1 := hmin y hy
          rcases (hp y hy).2.1 with ⟨t2, f1, _, f2, _⟩ | ⟨t2, _, _, f2, _⟩
          · rw [y1, y2] at f2
            have := one t' t2 _ _ e f2
            omega
          · rw [y1, y2] at f2
            exact absurd e (f2 t'))
      have hkt : kset (S r) has := kset_iff hk (fun z => (hst z).symm)
      have hg := kset_get hkt hd.1.1 hd.1.2
      have hnx : kset (S r) (dNext (D x.w x.j).1 (D x.w x.j).2 has) := by
        unfold dNext
        rcases han with ⟨k3, _⟩ | ⟨k1, _, hh⟩ | ⟨k2, _, hh⟩
        · rw [if_neg (by rw [k3]; decide), if_neg (by rw [k3]; decide)]
          exact hkt
        · rw [if_pos k1]
          exact kset_iff (kset_put hkt hd.1.1) (fun z => ⟨fun a => a.elim (fun e => by rw [e]; exact hh) id, .inr⟩)
        · rw [if_neg (by rw [k2]; decide), if_pos k2]
          exact kset_iff (kset_cut hkt hd.1.1) (fun z => ⟨fun a => a.1, fun a => ⟨a, fun e => hh (by rw [← e]; exact a)⟩⟩)
      refine ordB_pick hkx hahead ?_ (ih r _ _ hlen rn hnx hnd' (fun y hy => ?_) (fun t' w j a b c => ?_))
      · unfold dWas
        rcases han with ⟨k3, hh⟩ | ⟨k1, hf, hh⟩ | ⟨k2, hf, hh⟩
        · rw [if_neg (by rw [k3]; decide)]
          exact Bool.eq_iff_iff.mpr (hg.trans hh.symm)
        · rw [if_pos k1, hf, hg.mpr hh]
          rfl
        · rw [if_neg (by rw [k2]; decide), hf, ← Bool.not_eq_true, hg]
          exact hh
      · obtain ⟨a1, a2, a3⟩ := hp y (hin y hy)
        have h1 := hmin y (hin y hy)
        exact ⟨a1, a2, by omega⟩
      · obtain ⟨y, hy, y1, y2⟩ := hm t' w j (by omega) b c
        refine ⟨y, hback y hy (fun e => ?_), y1, y2⟩
        rw [y1, y2] at e
        exact hno t' (c.trans (congrArg some e))

end Go.Proofs.Ytfmdpmebllepeaa

/-
  ALL DEEDS OVER: the order of all that were told: plain mathematics. Nothing of the program.
-/
namespace Go.Proofs.Ytfmdpmebllepeaa

def tolD (W : Wd) (w j : Nat) : Dn := match W.tol w j with | some (b, e, i) => ⟨w, j, b, e, i⟩ | none => ⟨w, j, 0, -1, false⟩
theorem tolD_w (W : Wd) (w j : Nat) : ((tolD W w j).w, (tolD W w j).j) = (w, j) := by
  unfold tolD
  split <;> rfl
def Tdl (W : Wd) (nh : Nat) (len : Nat → Nat) : List Dn := (List.range nh).flatMap fun w => (List.range (len w)).map fun j => tolD W w j
theorem mem_Tdl {W : Wd} {nh : Nat} {len : Nat → Nat} {x : Dn} : x ∈ Tdl W nh len ↔ ∃ w j, w < nh ∧ j < len w ∧ tolD W w j = x := by
  unfold Tdl
  simp only [List.mem_flatMap, List.mem_map, List.mem_range]
  constructor
  · rintro ⟨w, hw, j, hj, e⟩
    exact ⟨w, j, hw, hj, e⟩
  · rintro ⟨w, j, hw, hj, e⟩
    exact ⟨w, hw, j, hj, e⟩
theorem Tdl_nodup (W : Wd) (nh : Nat) (len : Nat → Nat) : ((Tdl W nh len).map fun x => (x.w, x.j)).Nodup := by
  have : (Tdl W nh len).map (fun x => (x.w, x.j)) = (List.range nh).flatMap fun w => (List.range (len w)).map fun j => (w, j) := by
    unfold Tdl
    rw [List.map_flatMap]
    congr 1
    funext w
    rw [List.map_map]
    congr 1
    funext j
    exact tolD_w W w j
  rw [this]
  induction nh with
  | zero => simp
  | succ n ih =>
    rw [List.range_succ, List.flatMap_append]
    rw [List.nodup_append]
    refine ⟨?_, ?_, ?_⟩
    · apply ih
      unfold Tdl
      rw [List.map_flatMap]
      congr 1
      funext w
      rw [List.map_map]
      congr 1
      funext j
      exact tolD_w W w j
    · simp only [List.flatMap_cons, List.flatMap_nil, List.append_nil]
      unfold List.Nodup
      rw [List.pairwise_map]
      exact List.nodup_range.imp (fun h e => h (Prod.mk.inj e).2)
    · intro a ha b hb e
      simp only [List.mem_flatMap, List.mem_map, List.mem_range, List.flatMap_cons, List.flatMap_nil, List.append_nil] at ha hb
      obtain ⟨w, hw, j, _, ea⟩ := ha
      obtain ⟨j', _, eb⟩ := hb
      rw [← ea, ← eb] at e
      have := (Prod.mk.inj e).1
      omega

theorem HI.order {A : Alg} (hA : AlgOk A) {D : Nat → Nat → Int × Int} {S : Nat → Int → Prop} {mv : Nat → Option (Nat × Nat)} {W : Wd} (h : HI A D S mv W) {nh : Nat} {len : Nat → Nat} (hlen : ∀ w, nh ≤ w → len w = 0) (hix : ∀ w, W.ix w = len w) (hidle : ∀ w, W.hs w = hd0)
    (hD : ∀ w j, j < len w → Dee (D w j).1 (D w j).2) {has left : List Bool} (h0 : kset (S 0) has) (h1 : kset W.s.has left) : ordB D (Tdl W nh len).length has (Tdl W nh len) left = true := by
  classical
  have hpt : ∀ x, x ∈ Tdl W nh len → ∃ p, PtOf D S mv W.now x p := by
    intro x hx
    obtain ⟨w, j, hw, hj, e⟩ := mem_Tdl.mp hx
    obtain ⟨b, e', i, ht, hbe, hen, hh⟩ := h.fin w j (by rw [hix]; exact hj)
    have ex : x = ⟨w, j, b, e', i⟩ := by rw [← e]; unfold tolD; rw [ht]
    subst ex
    rcases hh with ⟨hi, t, t1, t2, t3⟩ | ⟨⟨k, k1, k2, k3⟩, nm⟩
    · exact ⟨2 * t + 1, .inl ⟨t, rfl, by omega, t3, hi, by show (b : Int) ≤ t; omega, by show (t : Int) ≤ e'; omega⟩⟩
    · exact ⟨2 * k, .inr ⟨k, rfl, by omega, nm, k3, by show (b : Int) < k; omega, by show (k : Int) ≤ e'; omega⟩⟩
  refine ord_of (pt := fun x => if hx : ∃ p, PtOf D S mv W.now x p then hx.choose else 0) h.chg h.one (kset_iff h1 (fun x => (h.top x).symm)) _ 0 _ _ rfl (Nat.zero_le _) h0 (Tdl_nodup _ _ _) (fun x hx => ?_) (fun t w j _ ht hm => ?_)
  · obtain ⟨w, j, hw, hj, e⟩ := mem_Tdl.mp hx
    have e2 := tolD_w W w j
    rw [e] at e2
    refine ⟨?_, ?_, by omega⟩
    · rw [(Prod.mk.inj e2).1, (Prod.mk.inj e2).2]
      exact hD w j hj
    · rw [dif_pos (hpt x hx)]
      exact (hpt x hx).choose_spec
  · have hj : j < len w := by
      rcases (h.mvt t w j hm).2 with a | ⟨_, a⟩
      · rw [hix] at a; exact a
      · rw [hidle] at a
        exact absurd a hA.npend
    have hw : w < nh := Classical.byContradiction fun hn => by
      rw [hlen w (by omega)] at hj
      omega
    have e2 := tolD_w W w j
    exact ⟨tolD W w j, mem_Tdl.mpr ⟨w, j, hw, hj, rfl⟩, (Prod.mk.inj e2).1, (Prod.mk.inj e2).2⟩

end Go.Proofs.Ytfmdpmebllepeaa

/-
  WHEN ALL DEEDS ARE OVER: steps that wait, steps that go on, beginnings anew, changes: plain mathematics. Nothing of the program.
-/
namespace Go.Proofs.Ytfmdpmebllepeaa

def KB (s : Bs) : Prop := ∀ i, i < s.sz → -1 ≤ s.key i ∧ s.key i ≤ 10
def sumTo (f : Nat → Nat) : Nat → Nat
  | 0 => 0
  | n + 1 => sumTo f n + f n
theorem sumTo_same {f g : Nat → Nat} {n : Nat} (h : ∀ v, v < n → f v = g v) : sumTo f n = sumTo g n := by
  induction n with
  | zero => rfl
  | succ n ih => show sumTo f n + f n = sumTo g n + g n; rw [ih (fun v hv => h v (by omega)), h n (by omega)]
theorem sumTo_one {f g : Nat → Nat} {n w : Nat} (hw : w < n) (h : ∀ v, v < n → v ≠ w → f v = g v) : sumTo f n + g w = sumTo g n + f w := by
  induction n with
  | zero => omega
  | succ n ih =>
    show sumTo f n + f n + g w = sumTo g n + g n + f w
    by_cases e : w = n
    · subst e
      rw [sumTo_same (fun v hv => h v (by omega) (by omega))]
      omega
    · have := ih (by omega) (fun v hv hn => h v (by omega) hn)
      have := h n (by omega) (by omega)
      omega
theorem sumTo_le {f g : Nat → Nat} {n : Nat} (h : ∀ v, v < n → f v ≤ g v) : sumTo f n ≤ sumTo g n := by
  induction n with
  | zero => exact Nat.le_refl _
  | succ n ih =>
    have h1 := ih (fun v hv => h v (by omega))
    have h2 := h n (by omega)
    show sumTo f n + f n ≤ sumTo g n + g n
    omega
theorem sumTo_eq {f g : Nat → Nat} {n : Nat} (h : ∀ v, v < n → f v ≤ g v) (he : sumTo g n ≤ sumTo f n) : ∀ v, v < n → f v = g v := by
  induction n with
  | zero => intro v hv; omega
  | succ n ih =>
    have he' : sumTo g n + g n ≤ sumTo f n + f n := he
    have h1 := sumTo_le (n := n) (fun v hv => h v (by omega))
    have h2 := h n (by omega)
    intro v hv
    by_cases e : v = n
    · rw [e]; omega
    · exact ih (fun v hv => h v (by omega)) (by omega) v (by omega)

structure AlgT where
  pos : Bs → Hd → Nat
  lps : Bs → Hd → Nat
  val : Bs → Hd → Int → Prop
  want : Bs → Hd → Int → Int → Option Nat
  cn : Bs → Hd → Int → Int → Nat
  chn : Bs → Nat → Prop
  pd : Hd → Nat
  gl : Bs → (Nat → Bool) → Prop
  hi : Bs → Hd → Prop
  nr : Nat
  nd : Nat
  lr : Nat
  ld : Nat
structure AlgTOk (A : Alg) (T : AlgT) : Prop where
  kb : ∀ {s lk h kd K g}, A.cor s → A.inv s h kd K g → Dee kd K → KB s → KB (A.step s lk h kd K).s
  pg : ∀ {s s' h kd K g}, A.cor s → A.inv s h kd K g → Dee kd K → Grow s s' → T.pos s' h = T.pos s h ∧ T.lps s' h = T.lps s h
  zero : ∀ s h kd, h.at_ = 0 → T.val s h kd ∧ T.pos s h = 0 ∧ T.lps s h = 0
  pd0 : T.pd hd0 = 0
  top : ∀ {s h kd K g}, A.cor s → A.inv s h kd K g → Dee kd K → KB s → T.pos s h + 1 ≤ T.nd ∧ T.lps s h ≤ T.ld
  wait : ∀ {s lk h kd K g j}, A.cor s → A.inv s h kd K g → Dee kd K → T.want s h kd K = some j → lk j = true →
    ((A.step s lk h kd K).over = false ∧ (A.step s lk h kd K).s = s ∧ (A.step s lk h kd K).lk = lk) ∧ (∀ i, A.own (A.step s lk h kd K).h i ↔ A.own h i) ∧ T.pos s h ≤ T.pos s (A.step s lk h kd K).h ∧ T.lps s h ≤ T.lps s (A.step s lk h kd K).h ∧ (T.val s h kd → T.val s (A.step s lk h kd K).h kd)
  hi0 : ∀ s, T.hi s hd0
  gstep : ∀ {s lk h kd K g}, A.cor s → A.inv s h kd K g → Dee kd K → T.gl s lk → T.hi s h → (∀ i, A.own h i → lk i = true) → T.gl (A.step s lk h kd K).s (A.step s lk h kd K).lk ∧ ((A.step s lk h kd K).over = false → T.hi (A.step s lk h kd K).s (A.step s lk h kd K).h)
  goth : ∀ {s lk h kd K g h'}, A.cor s → A.inv s h kd K g → Dee kd K → (∀ i, A.own h' i → ¬ A.own h i) → (∀ i, A.own h' i → i < s.sz) → T.hi s h' → T.hi (A.step s lk h kd K).s h'
  go : ∀ {s lk h kd K g}, A.cor s → A.inv s h kd K g → Dee kd K → KB s → T.gl s lk → T.hi s h → (∀ j, T.want s h kd K = some j → lk j = false) →
    ((A.step s lk h kd K).over = true ∧ T.lps s h + T.cn s h kd K ≤ T.ld) ∨
    ((A.step s lk h kd K).over = false ∧ (A.step s lk h kd K).h.at_ = 0 ∧ (A.step s lk h kd K).s = s ∧ ¬ T.val s h kd ∧ T.pos s h + 1 ≤ T.nr ∧ T.lps s h + T.cn s h kd K ≤ T.lr) ∨
    ((A.step s lk h kd K).over = false ∧ T.pos s h + 1 ≤ T.pos (A.step s lk h kd K).s (A.step s lk h kd K).h ∧ T.lps s h + T.cn s h kd K ≤ T.lps (A.step s lk h kd K).s (A.step s lk h kd K).h ∧ ((A.step s lk h kd K).s = s → T.val s h kd → T.val s (A.step s lk h kd K).h kd))
  chg : ∀ {s lk h kd K g c}, A.cor s → A.inv s h kd K g → Dee kd K → T.chn s c → ∃ c' x, T.chn (A.step s lk h kd K).s c' ∧ x ≤ 1 ∧ (x = 0 → (A.step s lk h kd K).s = s) ∧ x + c' + T.pd h ≤ c + (if (A.step s lk h kd K).over = true then 2 else T.pd (A.step s lk h kd K).h)
  keep : ∀ {s lk h kd K g}, A.cor s → A.inv s h kd K g → Dee kd K → (∀ j, T.want s h kd K = some j → lk j = false) → T.cn s h kd K = 0 → (A.step s lk h kd K).lk = lk ∧ ∀ i, A.own (A.step s lk h kd K).nh i ↔ A.own h i
  wup : ∀ {s h kd K g i j}, A.cor s → A.inv s h kd K g → Dee kd K → A.own h i → T.want s h kd K = some j → s.key i < s.key j
  wlt : ∀ {s h kd K g j}, A.cor s → A.inv s h kd K g → Dee kd K → T.want s h kd K = some j → j < s.sz
  olt : ∀ {s h kd K g i}, A.cor s → A.inv s h kd K g → Dee kd K → A.own h i → i < s.sz
  pd1 : ∀ h, T.pd h ≤ 1
  own0 : ∀ {s h kd K g i}, A.cor s → A.inv s h kd K g → Dee kd K → A.own h i → T.cn s h kd K ≠ 0
  lk3 : ∀ {s lk h kd K g}, A.cor s → A.inv s h kd K g → Dee kd K → ∀ i, (A.step s lk h kd K).lk i = true → A.own (A.step s lk h kd K).nh i ∨ (lk i = true ∧ ¬ A.own h i)

abbrev Dees (D : Nat → Nat → Int × Int) (len : Nat → Nat) : Prop := ∀ w j, j < len w → Dee (D w j).1 (D w j).2
structure Gh where
  n : Nat → Nat
  l : Nat → Nat
  r : Nat → Nat
  a : Nat → Nat
  cg : Nat
  c : Nat
structure TI (A : Alg) (T : AlgT) (D : Nat → Nat → Int × Int) (len : Nat → Nat) (nh c0 : Nat) (W : Wd) (G : Gh) : Prop where
  kb : KB W.s
  gl : T.gl W.s W.lk
  hi : ∀ w, T.hi W.s (W.hs w)
  chn : T.chn W.s G.c
  pot : G.cg + G.c ≤ c0 + sumTo (fun w => 2 * W.ix w + T.pd (W.hs w)) nh
  ra : ∀ w, G.r w ≤ G.a w
  ac : ∀ w, G.a w ≤ G.cg
  val : ∀ w, G.a w = G.cg → T.val W.s (W.hs w) (D w (W.ix w)).1
  n : ∀ w, G.n w ≤ T.nr * G.r w + T.nd * W.ix w + T.pos W.s (W.hs w)
  l : ∀ w, G.l w ≤ T.lr * G.r w + T.ld * W.ix w + T.lps W.s (W.hs w)
  lk3 : ∀ i, W.lk i = true → ∃ w, A.own (W.hs w) i
  ixl : ∀ w, W.ix w ≤ len w
  idl : ∀ w, W.ix w = len w → W.hs w = hd0

theorem TI.step {A : Alg} (hA : AlgOk A) {T : AlgT} (hT : AlgTOk A T) {D : Nat → Nat → Int × Int} {len : Nat → Nat} {nh c0 : Nat} {S : Nat → Int → Prop} {mv : Nat → Option (Nat × Nat)} {W : Wd} {G : Gh} (h : HI A D S mv W) (t : TI A T D len nh c0 W G) {w : Nat} (hw : w < nh) (hl : W.ix w < len w) (hD : Dees D len) :
    ∃ G', TI A T D len nh c0 (W.go A D w) G' ∧ (∀ v, v ≠ w → G'.n v = G.n v ∧ G'.l v = G.l v) ∧ Grow W.s (W.go A D w).s ∧
      ((∃ j, T.want W.s (W.hs w) (D w (W.ix w)).1 (D w (W.ix w)).2 = some j ∧ W.lk j = true ∧ (W.go A D w).lk = W.lk ∧ (∀ v i, A.own ((W.go A D w).hs v) i ↔ A.own (W.hs v) i) ∧ G'.n w = G.n w ∧ G'.l w = G.l w) ∨
       (G'.n w = G.n w + 1 ∧ G'.l w = G.l w + T.cn W.s (W.hs w) (D w (W.ix w)).1 (D w (W.ix w)).2 ∧ (T.cn W.s (W.hs w) (D w (W.ix w)).1 (D w (W.ix w)).2 = 0 → (W.go A D w).lk = W.lk ∧ ∀ v i, A.own ((W.go A D w).hs v) i ↔ A.own (W.hs v) i))) := by
  have hinv := h.inv w
  have hd := hD w _ hl
  obtain ⟨kd, hkd⟩ : ∃ kd, (D w (W.ix w)).1 = kd := ⟨_, rfl⟩
  obtain ⟨K, hK⟩ : ∃ K, (D w (W.ix w)).2 = K := ⟨_, rfl⟩
  have hval := t.val w
  rw [hkd, hK] at hinv hd ⊢
  rw [hkd] at hval
  obtain ⟨r, hr⟩ : ∃ r, A.step W.s W.lk (W.hs w) kd K = r := ⟨_, rfl⟩
  have gs : (W.go A D w).s = r.s := by unfold Wd.go; simp only [hkd, hK, hr]
  have gl : (W.go A D w).lk = r.lk := by unfold Wd.go; simp only [hkd, hK, hr]
  have gh : (W.go A D w).hs = upd W.hs w r.nh := by unfold Wd.go; simp only [hkd, hK, hr]
  have gi : (W.go A D w).ix = upd W.ix w (if r.over = true then W.ix w + 1 else W.ix w) := by unfold Wd.go; simp only [hkd, hK, hr]
  have hgrow : Grow W.s r.s := by
    have := (hA.stp (lk := W.lk) h.cor hinv hd).2.1.grow
    rw [hr] at this
    exact this
  have hkb : KB r.s := by
    have := hT.kb (lk := W.lk) h.cor hinv hd t.kb
    rw [hr] at this
    exact this
  obtain ⟨c', x, hc', hx1, hx0, hxc⟩ := hT.chg (lk := W.lk) h.cor hinv hd t.chn
  rw [hr] at hc' hx0 hxc
  have hnt : r.over = true → r.nh = hd0 := fun o => by unfold Rel.nh; rw [if_pos o]
  have hnf : r.over = false → r.nh = r.h := fun o => by unfold Rel.nh; rw [if_neg (by rw [o]; simp)]
  have hpot : ∀ cg', cg' = G.cg + x → cg' + c' ≤ c0 + sumTo (fun v => 2 * (W.go A D w).ix v + T.pd ((W.go A D w).hs v)) nh := by
    intro cg' e
    have h1 : sumTo (fun v => 2 * (W.go A D w).ix v + T.pd ((W.go A D w).hs v)) nh + (2 * W.ix w + T.pd (W.hs w)) = sumTo (fun v => 2 * W.ix v + T.pd (W.hs v)) nh + (2 * (W.go A D w).ix w + T.pd ((W.go A D w).hs w)) := sumTo_one (f := fun v => 2 * (W.go A D w).ix v + T.pd ((W.go A D w).hs v)) (g := fun v => 2 * W.ix v + T.pd (W.hs v)) hw (fun v _ hn => by show 2 * (W.go A D w).ix v + T.pd ((W.go A D w).hs v) = _; rw [gi, gh, upd_other _ _ hn, upd_other _ _ hn])
    rw [show (W.go A D w).ix w = if r.over = true then W.ix w + 1 else W.ix w by rw [gi, upd_same], show (W.go A D w).hs w = r.nh by rw [gh, upd_same]] at h1
    have h2 := t.pot
    cases ho : r.over with
    | true =>
      rw [ho] at hxc h1
      rw [hnt ho, hT.pd0] at h1
      simp only [if_true] at hxc h1
      omega
    | false =>
      rw [ho] at hxc h1
      rw [hnf ho] at h1
      simp only [Bool.false_eq_true, if_false] at hxc h1
      omega
  have hlk3 : ∀ i, r.lk i = true → ∃ v, A.own (upd W.hs w r.nh v) i := by
    intro i hi
    have := hT.lk3 (lk := W.lk) h.cor hinv hd i
    rw [hr] at this
    rcases this hi with h1 | ⟨h1, h2⟩
    · exact ⟨w, by rw [upd_same]; exact h1⟩
    · obtain ⟨v, hv⟩ := t.lk3 i h1
      have : v ≠ w := fun e => h2 (by rw [← e]; exact hv)
      exact ⟨v, by rw [upd_other _ _ this]; exact hv⟩
  have hpg : ∀ v, T.pos r.s (W.hs v) = T.pos W.s (W.hs v) ∧ T.lps r.s (W.hs v) = T.lps W.s (W.hs v) := fun v => by
    by_cases e : W.ix v = len v
    · rw [t.idl v e, (hT.zero r.s hd0 0 rfl).2.1, (hT.zero r.s hd0 0 rfl).2.2, (hT.zero W.s hd0 0 rfl).2.1, (hT.zero W.s hd0 0 rfl).2.2]
      exact ⟨rfl, rfl⟩
    · exact hT.pg h.cor (h.inv v) (hD v _ (by have := t.ixl v; omega)) hgrow
  have hgl := hT.gstep h.cor hinv hd t.gl (t.hi w) (h.lk1 w)
  rw [hr] at hgl
  have hhi : ∀ v, T.hi r.s (upd W.hs w r.nh v) := fun v => by
    by_cases e : v = w
    · rw [e, upd_same]
      cases ho : r.over with
      | true => rw [hnt ho]; exact hT.hi0 _
      | false => rw [hnf ho]; exact hgl.2 ho
    · rw [upd_other _ _ e]
      by_cases ed : W.ix v = len v
      · rw [t.idl v ed]; exact hT.hi0 _
      · have hdv := hD v (W.ix v) (by have := t.ixl v; omega)
        have := hT.goth (lk := W.lk) h.cor hinv hd (h' := W.hs v) (fun i a b => e (h.lk2 v w i a b)) (fun i a => hT.olt h.cor (h.inv v) hdv a) (t.hi v)
        rw [hr] at this
        exact this
  have hixl : ∀ v, (W.go A D w).ix v ≤ len v := fun v => by
    rw [gi]
    by_cases e : v = w
    · rw [e, upd_same]; split <;> omega
    · rw [upd_other _ _ e]; exact t.ixl v
  have hidl : ∀ v, (W.go A D w).ix v = len v → (W.go A D w).hs v = hd0 := fun v => by
    rw [gi, gh]
    by_cases e : v = w
    · rw [e, upd_same, upd_same]
      intro e2
      cases ho : r.over with
      | true => exact hnt ho
      | false => rw [ho] at e2; simp at e2; omega
    · rw [upd_other _ _ e, upd_other _ _ e]; exact t.idl v
  have mk : ∀ (n' l' r' a' : Nat), r' ≤ a' → a' ≤ G.cg + x → (a' = G.cg + x → T.val r.s r.nh (D w (if r.over = true then W.ix w + 1 else W.ix w)).1) →
      n' ≤ T.nr * r' + T.nd * (if r.over = true then W.ix w + 1 else W.ix w) + T.pos r.s r.nh → l' ≤ T.lr * r' + T.ld * (if r.over = true then W.ix w + 1 else W.ix w) + T.lps r.s r.nh →
      TI A T D len nh c0 (W.go A D w) ⟨upd G.n w n', upd G.l w l', upd G.r w r', upd G.a w a', G.cg + x, c'⟩ := by
    intro n' l' r' a' h1 h2 h3 h4 h5
    refine ⟨by rw [gs]; exact hkb, by rw [gs, gl]; exact hgl.1, fun v => by rw [gs, gh]; exact hhi v, by rw [gs]; exact hc', hpot _ rfl, fun v => ?_, fun v => ?_, fun v => ?_, fun v => ?_, fun v => ?_, by rw [gl, gh]; exact hlk3, hixl, hidl⟩
    · show upd G.r w r' v ≤ upd G.a w a' v
      by_cases e : v = w
      · rw [e, upd_same, upd_same]; exact h1
      · rw [upd_other _ _ e, upd_other _ _ e]; exact t.ra v
    · show upd G.a w a' v ≤ G.cg + x
      by_cases e : v = w
      · rw [e, upd_same]; exact h2
      · rw [upd_other _ _ e]; have := t.ac v; omega
    · show upd G.a w a' v = G.cg + x → T.val (W.go A D w).s ((W.go A D w).hs v) (D v ((W.go A D w).ix v)).1
      rw [gs, gh, gi]
      by_cases e : v = w
      · subst e
        rw [upd_same, upd_same, upd_same]; exact h3
      · rw [upd_other _ _ e, upd_other _ _ e, upd_other _ _ e]
        intro e2
        have := t.ac v
        have x0 : x = 0 := by omega
        rw [hx0 x0]
        exact t.val v (by omega)
    · show upd G.n w n' v ≤ T.nr * upd G.r w r' v + T.nd * (W.go A D w).ix v + T.pos (W.go A D w).s ((W.go A D w).hs v)
      rw [gs, gh, gi]
      by_cases e : v = w
      · rw [e, upd_same, upd_same, upd_same, upd_same]; exact h4
      · rw [upd_other _ _ e, upd_other _ _ e, upd_other _ _ e, upd_other _ _ e, (hpg v).1]
        exact t.n v
    · show upd G.l w l' v ≤ T.lr * upd G.r w r' v + T.ld * (W.go A D w).ix v + T.lps (W.go A D w).s ((W.go A D w).hs v)
      rw [gs, gh, gi]
      by_cases e : v = w
      · rw [e, upd_same, upd_same, upd_same, upd_same]; exact h5
      · rw [upd_other _ _ e, upd_other _ _ e, upd_other _ _ e, upd_other _ _ e, (hpg v).2]
        exact t.l v
  have ownup : (∀ i, A.own r.nh i ↔ A.own (W.hs w) i) → ∀ v i, A.own ((W.go A D w).hs v) i ↔ A.own (W.hs v) i := fun ho v i => by
    rw [gh]
    by_cases e : v = w
    · rw [e, upd_same]; exact ho i
    · rw [upd_other _ _ e]
  have hn := t.n w
  have hll := t.l w
  have hra := t.ra w
  have hac := t.ac w
  by_cases hwt : ∃ j, T.want W.s (W.hs w) kd K = some j ∧ W.lk j = true
  · -- it waits
    obtain ⟨j, hj, hlj⟩ := hwt
    have hwait := hT.wait h.cor hinv hd hj hlj
    rw [hr] at hwait
    obtain ⟨⟨ho, hs, hlk⟩, hown, hp, hlp, hv⟩ := hwait
    have hnh := hnf ho
    refine ⟨_, mk (G.n w) (G.l w) (G.r w) (G.a w) hra (by omega) ?_ ?_ ?_, fun v hv => ⟨upd_other _ _ hv, upd_other _ _ hv⟩, by rw [gs]; exact hgrow, .inl ⟨j, hj, hlj, by rw [gl]; exact hlk, ownup (by rw [hnh]; exact hown), upd_same _ _ _, upd_same _ _ _⟩⟩
    · intro e
      rw [ho, hnh, hs]
      simp only [Bool.false_eq_true, if_false]
      rw [hkd]
      exact hv (hval (by omega))
    · rw [ho, hnh, hs]
      simp only [Bool.false_eq_true, if_false]
      omega
    · rw [ho, hnh, hs]
      simp only [Bool.false_eq_true, if_false]
      omega
  · have hfree : ∀ j, T.want W.s (W.hs w) kd K = some j → W.lk j = false := fun j hj => by
      cases e : W.lk j with
      | false => rfl
      | true => exact absurd ⟨j, hj, e⟩ hwt
    have hkeep := hT.keep h.cor hinv hd hfree
    have hgo := hT.go h.cor hinv hd t.kb t.gl (t.hi w) hfree
    rw [hr] at hkeep hgo
    have htop := hT.top h.cor hinv hd t.kb
    obtain ⟨cn, hcn⟩ : ∃ cn, T.cn W.s (W.hs w) kd K = cn := ⟨_, rfl⟩
    rw [hcn] at hkeep hgo ⊢
    have last : ∀ n' r' a', n' = G.n w + 1 → TI A T D len nh c0 (W.go A D w) ⟨upd G.n w n', upd G.l w (G.l w + cn), upd G.r w r', upd G.a w a', G.cg + x, c'⟩ →
        ∃ G', TI A T D len nh c0 (W.go A D w) G' ∧ (∀ v, v ≠ w → G'.n v = G.n v ∧ G'.l v = G.l v) ∧ Grow W.s (W.go A D w).s ∧
          ((∃ j, T.want W.s (W.hs w) kd K = some j ∧ W.lk j = true ∧ (W.go A D w).lk = W.lk ∧ (∀ v i, A.own ((W.go A D w).hs v) i ↔ A.own (W.hs v) i) ∧ G'.n w = G.n w ∧ G'.l w = G.l w) ∨
           (G'.n w = G.n w + 1 ∧ G'.l w = G.l w + cn ∧ (cn = 0 → (W.go A D w).lk = W.lk ∧ ∀ v i, A.own ((W.go A D w).hs v) i ↔ A.own (W.hs v) i))) := fun n' r' a' en ti => ⟨_, ti, fun v hv => ⟨upd_other _ _ hv, upd_other _ _ hv⟩, by rw [gs]; exact hgrow, .inr ⟨(upd_same _ _ _).trans en, upd_same _ _ _, fun e => ⟨by rw [gl]; exact (hkeep e).1, ownup (hkeep e).2⟩⟩⟩
    rcases hgo with ⟨ho, h1⟩ | ⟨ho, h0, hs, hnv, h1, h2⟩ | ⟨ho, h1, h2, hv⟩
    · -- the deed is over
      refine last _ (G.r w) (G.cg + x) rfl (mk _ _ _ _ (by omega) (Nat.le_refl _) ?_ ?_ ?_)
      · intro _
        rw [hnt ho]
        exact (hT.zero _ _ _ rfl).1
      · rw [ho, hnt ho, (hT.zero r.s hd0 0 rfl).2.1]
        simp only [if_true, Nat.mul_add, Nat.mul_one]
        omega
      · rw [ho, hnt ho, (hT.zero r.s hd0 0 rfl).2.2]
        simp only [if_true, Nat.mul_add, Nat.mul_one]
        omega
    · -- anew
      have hne : G.a w ≠ G.cg := fun e => hnv (hval e)
      refine last _ (G.r w + 1) (G.cg + x) rfl (mk _ _ _ _ (by omega) (Nat.le_refl _) ?_ ?_ ?_)
      · intro _
        rw [hnf ho]
        exact (hT.zero _ _ _ h0).1
      · rw [ho, hnf ho, (hT.zero r.s r.h 0 h0).2.1]
        simp only [Bool.false_eq_true, if_false, Nat.mul_add, Nat.mul_one]
        omega
      · rw [ho, hnf ho, (hT.zero r.s r.h 0 h0).2.2]
        simp only [Bool.false_eq_true, if_false, Nat.mul_add, Nat.mul_one]
        omega
    · -- on
      refine last _ (G.r w) (G.a w) rfl (mk _ _ _ _ hra (by omega) ?_ ?_ ?_)
      · intro e
        have x0 : x = 0 := by omega
        have hs := hx0 x0
        rw [ho, hnf ho]
        simp only [Bool.false_eq_true, if_false]
        rw [hkd, hs]
        exact hv hs (hval (by omega))
      · rw [ho, hnf ho]
        simp only [Bool.false_eq_true, if_false]
        omega
      · rw [ho, hnf ho]
        simp only [Bool.false_eq_true, if_false]
        omega

end Go.Proofs.Ytfmdpmebllepeaa

/-
  ROUND BY ROUND: in each round that a hand is not done, it goes on, or one does that holds a lock: plain mathematics. Nothing of the program.
-/
namespace Go.Proofs.Ytfmdpmebllepeaa

def Wd.go1 (A : Alg) (D : Nat → Nat → Int × Int) (len : Nat → Nat) (W : Wd) (w : Nat) : Wd := if W.ix w < len w then W.go A D w else W
def Wd.runs (A : Alg) (D : Nat → Nat → Int × Int) (len : Nat → Nat) (ws : List Nat) (W : Wd) : Wd := ws.foldl (Wd.go1 A D len) W
theorem Grow.refl (s : Bs) : Grow s s := ⟨Nat.le_refl _, rfl, fun _ _ => rfl, fun _ _ h => h⟩
theorem Grow.trans {s s1 s2 : Bs} (h1 : Grow s s1) (h2 : Grow s1 s2) : Grow s s2 :=
  ⟨Nat.le_trans h1.sz h2.sz, h2.tl.trans h1.tl, fun i hi => by rw [h2.key i (Nat.lt_of_lt_of_le hi h1.sz), h1.key i hi], fun i hi hm => h2.mrk i (Nat.lt_of_lt_of_le hi h1.sz) (h1.mrk i hi hm)⟩
theorem Wd.go_ix (A : Alg) (D : Nat → Nat → Int × Int) (W : Wd) (w v : Nat) : W.ix v ≤ (W.go A D w).ix v ∧ (v ≠ w → (W.go A D w).ix v = W.ix v) ∧ (W.go A D w).now = W.now + 1 := by
  unfold Wd.go
  refine ⟨?_, fun hn => upd_other _ _ hn, rfl⟩
  show W.ix v ≤ upd W.ix w _ v
  by_cases e : v = w
  · rw [e, upd_same]; split <;> omega
  · rw [upd_other _ _ e]; exact Nat.le_refl _

section
variable {A : Alg} {T : AlgT} {D : Nat → Nat → Int × Int} {len : Nat → Nat} {nh c0 : Nat}
theorem own_lt (hA : AlgOk A) (hT : AlgTOk A T) {S : Nat → Int → Prop} {mv : Nat → Option (Nat × Nat)} {W : Wd} {G : Gh} (h : HI A D S mv W) (t : TI A T D len nh c0 W G) (hD : Dees D len) {w i : Nat} (ho : A.own (W.hs w) i) : W.ix w < len w ∧ i < W.s.sz := by
  have hl : W.ix w < len w := Classical.byContradiction fun hn => by
    have := t.ixl w
    rw [t.idl w (by omega)] at ho
    exact hA.nown i ho
  exact ⟨hl, hT.olt h.cor (h.inv w) (hD w _ hl) ho⟩
theorem lk_lt (hA : AlgOk A) (hT : AlgTOk A T) {S : Nat → Int → Prop} {mv : Nat → Option (Nat × Nat)} {W : Wd} {G : Gh} (h : HI A D S mv W) (t : TI A T D len nh c0 W G) (hD : Dees D len) {i : Nat} (ho : W.lk i = true) : i < W.s.sz := by
  obtain ⟨w, hw⟩ := t.lk3 i ho
  exact (own_lt hA hT h t hD hw).2

theorem runs_any (hA : AlgOk A) (hT : AlgTOk A T) (hD : Dees D len) : ∀ (ws : List Nat), (∀ w, w ∈ ws → w < nh) → ws.Nodup → ∀ (S : Nat → Int → Prop) (mv : Nat → Option (Nat × Nat)) (W : Wd) (G : Gh), HI A D S mv W → TI A T D len nh c0 W G →
    ∃ S' mv' G', HI A D S' mv' (W.runs A D len ws) ∧ TI A T D len nh c0 (W.runs A D len ws) G' ∧ (∀ t, t ≤ W.now → S' t = S t) ∧ (∀ v, G.n v ≤ G'.n v ∧ G.l v ≤ G'.l v ∧ (nh ≤ v → G'.l v = G.l v)) ∧ (W.now ≤ (W.runs A D len ws).now ∧ (W.runs A D len ws).now ≤ W.now + ws.length) ∧ Grow W.s (W.runs A D len ws).s ∧ (∀ v, W.ix v ≤ (W.runs A D len ws).ix v) ∧
      ∀ w0, (∀ v, v ≠ w0 → G'.l v = G.l v) → G'.n w0 = G.n w0 → (W.runs A D len ws).lk = W.lk ∧ (∀ v i, A.own ((W.runs A D len ws).hs v) i ↔ A.own (W.hs v) i) ∧
        ∀ w, w ∈ ws → W.ix w < len w → (w = w0 ∨ ∃ i, A.own (W.hs w) i) → ∃ j, W.lk j = true ∧ ∀ i, A.own (W.hs w) i → W.s.key i < W.s.key j := by
  intro ws
  induction ws with
  | nil =>
    intro _ _ S mv W G h t
    exact ⟨S, mv, G, h, t, fun _ _ => rfl, fun _ => ⟨Nat.le_refl _, Nat.le_refl _, fun _ => rfl⟩, ⟨Nat.le_refl _, Nat.le_refl _⟩, Grow.refl _, fun _ => Nat.le_refl _, fun _ _ _ => ⟨rfl, fun _ _ => Iff.rfl, fun w hw => by cases hw⟩⟩
  | cons a ws ih =>
    intro hlt hnd S mv W G h t
    have hnd' := List.nodup_cons.mp hnd
    have ha : a < nh := hlt a (List.mem_cons_self ..)
    show ∃ S' mv' G', HI A D S' mv' ((W.go1 A D len a).runs A D len ws) ∧ TI A T D len nh c0 ((W.go1 A D len a).runs A D len ws) G' ∧ (∀ t, t ≤ W.now → S' t = S t) ∧ (∀ v, G.n v ≤ G'.n v ∧ G.l v ≤ G'.l v ∧ (nh ≤ v → G'.l v = G.l v)) ∧ (W.now ≤ ((W.go1 A D len a).runs A D len ws).now ∧ ((W.go1 A D len a).runs A D len ws).now ≤ W.now + (ws.length + 1)) ∧ Grow W.s ((W.go1 A D len a).runs A D len ws).s ∧ (∀ v, W.ix v ≤ ((W.go1 A D len a).runs A D len ws).ix v) ∧
      ∀ w0, (∀ v, v ≠ w0 → G'.l v = G.l v) → G'.n w0 = G.n w0 → ((W.go1 A D len a).runs A D len ws).lk = W.lk ∧ (∀ v i, A.own (((W.go1 A D len a).runs A D len ws).hs v) i ↔ A.own (W.hs v) i) ∧
        ∀ w, w ∈ a :: ws → W.ix w < len w → (w = w0 ∨ ∃ i, A.own (W.hs w) i) → ∃ j, W.lk j = true ∧ ∀ i, A.own (W.hs w) i → W.s.key i < W.s.key j
    by_cases hl : W.ix a < len a
    · have e1 : W.go1 A D len a = W.go A D a := by unfold Wd.go1; rw [if_pos hl]
      rw [e1]
      have hd := hD a _ hl
      obtain ⟨S1, mv1, h1, hS1, _⟩ := h.step hA a hd
      obtain ⟨G1, t1, hoth, hgr, hcase⟩ := t.step hA hT h ha hl hD
      have hmon : ∀ v, G.n v ≤ G1.n v ∧ G.l v ≤ G1.l v := fun v => by
        by_cases e : v = a
        · subst e
          rcases hcase with ⟨_, _, _, _, _, x, y⟩ | ⟨x, y, _⟩ <;> omega
        · have := hoth v e; omega
      obtain ⟨S2, mv2, G2, h2, t2, hS2, hmon2, hnow, hgr2, hix2, hall⟩ := ih (fun w hw => hlt w (List.mem_cons_of_mem _ hw)) hnd'.2 S1 mv1 _ G1 h1 t1
      have hn1 : (W.go A D a).now = W.now + 1 := rfl
      refine ⟨S2, mv2, G2, h2, t2, fun t ht => (hS2 t (by omega)).trans (hS1 t ht), fun v => ⟨Nat.le_trans (hmon v).1 (hmon2 v).1, Nat.le_trans (hmon v).2 (hmon2 v).2.1, fun hv => ((hmon2 v).2.2 hv).trans (hoth v (by omega)).2⟩, ⟨by omega, by omega⟩, hgr.trans hgr2, fun v => Nat.le_trans (Wd.go_ix A D W a v).1 (hix2 v), fun w0 hl0 hn0 => ?_⟩
      have hl1 : ∀ v, v ≠ w0 → G1.l v = G.l v := fun v hv => by have := hl0 v hv; have := hmon v; have := hmon2 v; omega
      have hn1' : G1.n w0 = G.n w0 := by have := hmon w0; have := hmon2 w0; omega
      obtain ⟨klk, kown, kall⟩ := hall w0 (fun v hv => by rw [hl0 v hv, hl1 v hv]) (by rw [hn0, hn1'])
      have hstep : (W.go A D a).lk = W.lk ∧ (∀ v i, A.own ((W.go A D a).hs v) i ↔ A.own (W.hs v) i) ∧ ((a = w0 ∨ ∃ i, A.own (W.hs a) i) → ∃ j, W.lk j = true ∧ ∀ i, A.own (W.hs a) i → W.s.key i < W.s.key j) := by
        rcases hcase with ⟨j, j1, j2, j3, j4, _, _⟩ | ⟨x, y, z⟩
        · exact ⟨j3, j4, fun _ => ⟨j, j2, fun i hi => hT.wup h.cor (h.inv a) hd hi j1⟩⟩
        · have hne : a ≠ w0 := fun e => by rw [e] at x; omega
          have c00 : T.cn W.s (W.hs a) (D a (W.ix a)).1 (D a (W.ix a)).2 = 0 := by have := hl1 a hne; omega
          refine ⟨(z c00).1, (z c00).2, fun ho => ?_⟩
          rcases ho with ho | ⟨i, hi⟩
          · exact absurd ho hne
          · exact absurd c00 (hT.own0 h.cor (h.inv a) hd hi)
      refine ⟨klk.trans hstep.1, fun v i => (kown v i).trans (hstep.2.1 v i), fun w hw hwl ho => ?_⟩
      rcases List.mem_cons.mp hw with e | e
      · subst e
        exact hstep.2.2 ho
      · have hne : w ≠ a := fun e' => hnd'.1 (by rw [← e']; exact e)
        have hix : (W.go A D a).ix w = W.ix w := (Wd.go_ix A D W a w).2.1 hne
        obtain ⟨j, j1, j2⟩ := kall w e (by rw [hix]; exact hwl) (ho.imp id (fun ⟨i, hi⟩ => ⟨i, (hstep.2.1 w i).mpr hi⟩))
        rw [hstep.1] at j1
        refine ⟨j, j1, fun i hi => ?_⟩
        have := j2 i ((hstep.2.1 w i).mpr hi)
        rw [hgr.key i (own_lt hA hT h t hD hi).2, hgr.key j (lk_lt hA hT h t hD j1)] at this
        exact this
    · have e1 : W.go1 A D len a = W := by unfold Wd.go1; rw [if_neg hl]
      rw [e1]
      obtain ⟨S2, mv2, G2, h2, t2, hS2, hmon2, hnow, hgr2, hix2, hall⟩ := ih (fun w hw => hlt w (List.mem_cons_of_mem _ hw)) hnd'.2 S mv W G h t
      refine ⟨S2, mv2, G2, h2, t2, hS2, hmon2, ⟨hnow.1, by omega⟩, hgr2, hix2, fun w0 hl0 hn0 => ?_⟩
      obtain ⟨klk, kown, kall⟩ := hall w0 hl0 hn0
      refine ⟨klk, kown, fun w hw hwl ho => ?_⟩
      rcases List.mem_cons.mp hw with e | e
      · rw [e] at hwl; exact absurd hwl hl
      · exact kall w e hwl ho

def psi (G : Gh) (w0 nh : Nat) : Nat := sumTo (fun v => if v = w0 then G.n v else G.l v) nh
theorem round_any (hA : AlgOk A) (hT : AlgTOk A T) (hD : Dees D len) (hlen : ∀ w, nh ≤ w → len w = 0) {S : Nat → Int → Prop} {mv : Nat → Option (Nat × Nat)} {W : Wd} {G : Gh} (h : HI A D S mv W) (t : TI A T D len nh c0 W G) :
    ∃ S' mv' G', HI A D S' mv' (W.runs A D len (List.range nh)) ∧ TI A T D len nh c0 (W.runs A D len (List.range nh)) G' ∧ (∀ t, t ≤ W.now → S' t = S t) ∧ (W.now ≤ (W.runs A D len (List.range nh)).now ∧ (W.runs A D len (List.range nh)).now ≤ W.now + nh) ∧ (∀ v, W.ix v ≤ (W.runs A D len (List.range nh)).ix v) ∧ ∀ w0, w0 < nh → W.ix w0 < len w0 → psi G w0 nh + 1 ≤ psi G' w0 nh := by
  obtain ⟨S', mv', G', h', t', hS, hmon, hnow, _, hix, hall⟩ := runs_any (c0 := c0) hA hT hD (List.range nh) (fun w hw => List.mem_range.mp hw) List.nodup_range S mv W G h t
  rw [List.length_range] at hnow
  refine ⟨S', mv', G', h', t', hS, hnow, hix, fun w0 hw0 hun => ?_⟩
  apply Classical.byContradiction
  intro hcon
  have hle : ∀ v, v < nh → (if v = w0 then G.n v else G.l v) ≤ (if v = w0 then G'.n v else G'.l v) := fun v _ => by
    have := hmon v
    split <;> omega
  have hsame := sumTo_eq hle (by unfold psi at hcon; omega)
  have hn0 : G'.n w0 = G.n w0 := by have := hsame w0 hw0; rw [if_pos rfl, if_pos rfl] at this; exact this.symm
  have hl0 : ∀ v, v ≠ w0 → G'.l v = G.l v := fun v hv => by
    by_cases e : v < nh
    · have := hsame v e
      rw [if_neg hv, if_neg hv] at this
      exact this.symm
    · exact (hmon v).2.2 (by omega)
  obtain ⟨_, _, kall⟩ := hall w0 hl0 hn0
  have up : ∀ (m j : Nat), W.lk j = true → (10 - W.s.key j).toNat ≤ m → False := by
    intro m
    induction m with
    | zero =>
      intro j hj hm
      obtain ⟨v, hv⟩ := t.lk3 j hj
      have hvl := (own_lt hA hT h t hD hv).1
      have hvn : v < nh := Classical.byContradiction fun hn => by rw [hlen v (by omega)] at hvl; omega
      obtain ⟨j', a1, a2⟩ := kall v (List.mem_range.mpr hvn) hvl (.inr ⟨j, hv⟩)
      have := a2 j hv
      have := (t.kb j' (lk_lt hA hT h t hD a1)).2
      omega
    | succ m ih =>
      intro j hj hm
      obtain ⟨v, hv⟩ := t.lk3 j hj
      have hvl := (own_lt hA hT h t hD hv).1
      have hvn : v < nh := Classical.byContradiction fun hn => by rw [hlen v (by omega)] at hvl; omega
      obtain ⟨j', a1, a2⟩ := kall v (List.mem_range.mpr hvn) hvl (.inr ⟨j, hv⟩)
      have := a2 j hv
      exact ih j' a1 (by omega)
  obtain ⟨j, hj, _⟩ := kall w0 (List.mem_range.mpr hw0) hun (.inl rfl)
  exact up _ j hj (Nat.le_refl _)
def Wd.rounds (A : Alg) (D : Nat → Nat → Int × Int) (len : Nat → Nat) (nh : Nat) (W : Wd) : Nat → Wd
  | 0 => W
  | k + 1 => (W.rounds A D len nh k).runs A D len (List.range nh)
theorem rounds_any (hA : AlgOk A) (hT : AlgTOk A T) (hD : Dees D len) (hlen : ∀ w, nh ≤ w → len w = 0) {S : Nat → Int → Prop} {mv : Nat → Option (Nat × Nat)} {W : Wd} {G : Gh} (h : HI A D S mv W) (t : TI A T D len nh c0 W G) : ∀ k, 
    ∃ S' mv' G', HI A D S' mv' (W.rounds A D len nh k) ∧ TI A T D len nh c0 (W.rounds A D len nh k) G' ∧ (∀ t, t ≤ W.now → S' t = S t) ∧ (W.now ≤ (W.rounds A D len nh k).now ∧ (W.rounds A D len nh k).now ≤ W.now + nh * k) ∧ ∀ w0, w0 < nh → (W.rounds A D len nh k).ix w0 < len w0 → k ≤ psi G' w0 nh := by
  intro k
  induction k with
  | zero => exact ⟨S, mv, G, h, t, fun _ _ => rfl, ⟨Nat.le_refl _, Nat.le_add_right _ _⟩, fun _ _ _ => Nat.zero_le _⟩
  | succ k ih =>
    obtain ⟨S1, mv1, G1, h1, t1, hS1, hn1, hp1⟩ := ih
    obtain ⟨S2, mv2, G2, h2, t2, hS2, hn2, hix, hp2⟩ := round_any hA hT hD hlen h1 t1
    refine ⟨S2, mv2, G2, h2, t2, fun t ht => (hS2 t (by omega)).trans (hS1 t ht), ⟨Nat.le_trans hn1.1 hn2.1, ?_⟩, fun w0 hw0 hun => ?_⟩
    · have e : nh * (k + 1) = nh * k + nh := Nat.mul_succ _ _
      have := hn2.2
      show ((W.rounds A D len nh k).runs A D len (List.range nh)).now ≤ _
      omega
    · have hun1 : (W.rounds A D len nh k).ix w0 < len w0 := Nat.lt_of_le_of_lt (hix w0) hun
      have := hp1 w0 hw0 hun1
      have := hp2 w0 hw0 hun1
      omega
theorem psi_le (hT : AlgTOk A T) (hD : Dees D len) {S : Nat → Int → Prop} {mv : Nat → Option (Nat × Nat)} {W : Wd} {G : Gh} (h : HI A D S mv W) (t : TI A T D len nh c0 W G) (hnh : nh ≤ 4) (hl4 : ∀ w, len w ≤ 4) {w0 : Nat} (hw0 : w0 < nh) (hun : W.ix w0 < len w0) :
    psi G w0 nh + 1 ≤ (T.nr * (c0 + 32) + T.nd * 4) + 3 * (T.lr * (c0 + 32) + T.ld * 4) := by
  have hcg : G.cg ≤ c0 + 32 := by
    have h1 := t.pot
    have h2 : sumTo (fun w => 2 * W.ix w + T.pd (W.hs w)) nh ≤ sumTo (fun _ => 8) nh := sumTo_le (fun v _ => by
      have := t.ixl v
      have := hl4 v
      have := hT.pd1 (W.hs v)
      show 2 * W.ix v + T.pd (W.hs v) ≤ 8
      by_cases e : W.ix v = len v
      · rw [t.idl v e, hT.pd0]; omega
      · omega)
    have h3 : sumTo (fun _ => 8) nh ≤ 32 := by
      have : ∀ n, sumTo (fun _ => 8) n = 8 * n := fun n => by
        induction n with
        | zero => rfl
        | succ n ih => show sumTo (fun _ => 8) n + 8 = _; omega
      rw [this]; omega
    omega
  have hr : ∀ v, G.r v ≤ c0 + 32 := fun v => by have := t.ra v; have := t.ac v; omega
  have hl : ∀ v, G.l v ≤ T.lr * (c0 + 32) + T.ld * 4 := fun v => by
    have h1 := t.l v
    have h2 : T.lr * G.r v ≤ T.lr * (c0 + 32) := Nat.mul_le_mul_left _ (hr v)
    have h3 : T.ld * W.ix v + T.lps W.s (W.hs v) ≤ T.ld * 4 := by
      by_cases e : W.ix v = len v
      · rw [t.idl v e, (hT.zero W.s hd0 0 rfl).2.2]
        have := Nat.mul_le_mul_left T.ld (show W.ix v ≤ 4 by rw [e]; exact hl4 v)
        omega
      · have h4 := (hT.top h.cor (h.inv v) (hD v _ (by have := t.ixl v; omega)) t.kb).2
        have h5 := Nat.mul_le_mul_left T.ld (show W.ix v + 1 ≤ 4 by have := t.ixl v; have := hl4 v; omega)
        rw [Nat.mul_add, Nat.mul_one] at h5
        omega
    omega
  have hn : G.n w0 + 1 ≤ T.nr * (c0 + 32) + T.nd * 4 := by
    have h1 := t.n w0
    have h2 : T.nr * G.r w0 ≤ T.nr * (c0 + 32) := Nat.mul_le_mul_left _ (hr w0)
    have h4 := (hT.top h.cor (h.inv w0) (hD w0 _ hun) t.kb).1
    have h5 := Nat.mul_le_mul_left T.nd (show W.ix w0 + 1 ≤ 4 by have := hl4 w0; omega)
    rw [Nat.mul_add, Nat.mul_one] at h5
    omega
  obtain ⟨N, eN⟩ : ∃ N, T.nr * (c0 + 32) + T.nd * 4 = N := ⟨_, rfl⟩
  obtain ⟨L, eL⟩ : ∃ L, T.lr * (c0 + 32) + T.ld * 4 = L := ⟨_, rfl⟩
  rw [eN] at hn ⊢
  rw [eL]
  have hsum : psi G w0 nh ≤ sumTo (fun v => if v = w0 then G.n w0 else L) nh := sumTo_le (fun v _ => by
    by_cases e : v = w0
    · rw [if_pos e, if_pos e, e]; exact Nat.le_refl _
    · rw [if_neg e, if_neg e, ← eL]; exact hl v)
  have hval : sumTo (fun v => if v = w0 then G.n w0 else L) nh + L = sumTo (fun _ => L) nh + G.n w0 := by
    have := sumTo_one (f := fun v => if v = w0 then G.n w0 else L) (g := fun _ => L) hw0 (fun v _ hv => by show (if v = w0 then G.n w0 else L) = L; rw [if_neg hv])
    simp only [if_true] at this
    exact this
  have hL : ∀ n, sumTo (fun _ => L) n = L * n := fun n => by
    induction n with
    | zero => rfl
    | succ n ih => show sumTo (fun _ => L) n + L = _; rw [ih, Nat.mul_succ]
  rw [hL] at hval
  have h4 := Nat.mul_le_mul_left L hnh
  omega
theorem all_over (hA : AlgOk A) (hT : AlgTOk A T) (hD : Dees D len) (hnh : nh ≤ 4) (hl4 : ∀ w, len w ≤ 4) (hlen : ∀ w, nh ≤ w → len w = 0) (hB : (T.nr * (c0 + 32) + T.nd * 4) + 3 * (T.lr * (c0 + 32) + T.ld * 4) ≤ 875) {S : Nat → Int → Prop} {mv : Nat → Option (Nat × Nat)} {W : Wd} {G : Gh} (h : HI A D S mv W) (t : TI A T D len nh c0 W G) (hnow : W.now ≤ 500) :
    (∀ k, k ≤ 875 → (W.rounds A D len nh k).now ≤ 500 + 4 * k) ∧ ∃ S' mv' G', HI A D S' mv' (W.rounds A D len nh 875) ∧ TI A T D len nh c0 (W.rounds A D len nh 875) G' ∧ (∀ t, t ≤ W.now → S' t = S t) ∧ ∀ w, (W.rounds A D len nh 875).ix w = len w ∧ (W.rounds A D len nh 875).hs w = hd0 := by
  refine ⟨fun k _ => ?_, ?_⟩
  · obtain ⟨_, _, _, _, _, _, hn, _⟩ := rounds_any hA hT hD hlen h t k
    have := Nat.mul_le_mul_right k hnh
    omega
  · obtain ⟨S', mv', G', h', t', hS, hn, hp⟩ := rounds_any hA hT hD hlen h t 875
    have hdone : ∀ w, (W.rounds A D len nh 875).ix w = len w := fun w => by
      apply Classical.byContradiction
      intro hne
      have h1 := t'.ixl w
      have h2 : w < nh := Classical.byContradiction fun hc => by rw [hlen w (by omega)] at h1 hne; omega
      have h3 := hp w h2 (by omega)
      have h4 := psi_le hT hD h' t' hnh hl4 h2 (by omega)
      omega
    exact ⟨S', mv', G', h', t', hS, fun w => ⟨hdone w, t'.idl w (hdone w)⟩⟩
end

end Go.Proofs.Ytfmdpmebllepeaa

/-
  HAND OVER HAND: how far, which locks: plain mathematics. Nothing of the program.
-/
namespace Go.Proofs.Ytfmdpmebllepeaa

theorem kb_ins {s : Bs} (h : KB s) {p : Nat} {K : Int} (hK : 0 ≤ K ∧ K ≤ 9) : KB (s.ins p K) := fun i hi => by
  have hi' : i < s.sz + 1 := hi
  show -1 ≤ upd s.key s.sz K i ∧ upd s.key s.sz K i ≤ 10
  by_cases e : i = s.sz
  · rw [e, upd_same]; omega
  · rw [upd_other _ _ e]; exact h i (by omega)
def overP (s : Bs) (h : Hd) : Nat := if h.at_ = 0 then 0 else if h.at_ = 1 then 1 + 2 * (s.key h.c + 1).toNat else 2 + 2 * (s.key h.c + 1).toNat
def tOver : AlgT := ⟨overP, overP, fun _ _ _ => True, fun _ h _ _ => if h.at_ = 0 then some 0 else if h.at_ = 1 then some h.c else none, fun _ _ _ _ => 1, fun _ c => c = 0, fun _ => 0, fun _ _ => True, fun _ _ => True, 0, 25, 0, 25⟩
theorem KI.clt {s : Bs} {h : Hd} {K : Int} (hc : Cor s) (hm : KI s h K) (hK : 0 ≤ K ∧ K ≤ 9) (h0 : h.at_ ≠ 0) : h.c < s.sz ∧ s.key h.p < s.key h.c ∧ h.p < s.sz := by
  obtain ⟨a, b, _, d⟩ := hm.pc h0
  have ht := key_tl hc hK (.inl b)
  rw [← d]
  exact ⟨hc.nlt _ a ht, hc.up _ a ht, a⟩
theorem overP_top {s : Bs} {h : Hd} {K : Int} (hc : Cor s) (hm : KI s h K) (hK : 0 ≤ K ∧ K ≤ 9) (hk : KB s) : overP s h + 1 ≤ 25 := by
  unfold overP
  by_cases h0 : h.at_ = 0
  · rw [if_pos h0]; omega
  · have := hk h.c (hm.clt hc hK h0).1
    rw [if_neg h0]
    split <;> omega
theorem tOver_ok : AlgTOk aOver tOver where
  kb := fun {s lk h kd K g} hc hm hd hk => by
    show KB (overS s lk h kd K).s
    unfold overS
    repeat' split
    all_goals first | exact hk | exact kb_ins hk hd.1
  pg := fun {s s' h kd K g} hc hm hd hg => by
    have hm : KI s h K := hm
    have : overP s' h = overP s h := by
      unfold overP
      by_cases h0 : h.at_ = 0
      · rw [if_pos h0, if_pos h0]
      · rw [hg.key _ (hm.clt hc.cor hd.1 h0).1]
    exact ⟨this, this⟩
  zero := fun s h kd h0 => by
    have : overP s h = 0 := by unfold overP; rw [if_pos h0]
    exact ⟨trivial, this, this⟩
  pd0 := rfl
  top := fun {s h kd K g} hc hm hd hk => by
    have := overP_top hc.cor (show KI s h K from hm) hd.1 hk
    show overP s h + 1 ≤ 25 ∧ overP s h ≤ 25
    omega
  wait := fun {s lk h kd K g j} hc hm hd hw hl => by
    have hw : (if h.at_ = 0 then some 0 else if h.at_ = 1 then some h.c else none) = some j := hw
    have e : overS s lk h kd K = ⟨s, lk, h, .none, false⟩ := by
      unfold overS
      by_cases h0 : h.at_ = 0
      · rw [if_pos h0] at hw ⊢
        cases hw
        rw [if_neg (by rw [hl]; simp)]
      · rw [if_neg h0] at hw ⊢
        by_cases h1 : h.at_ = 1
        · rw [if_pos h1] at hw ⊢
          cases hw
          rw [if_neg (by rw [hl]; simp)]
        · rw [if_neg h1] at hw
          cases hw
    show ((overS s lk h kd K).over = false ∧ (overS s lk h kd K).s = s ∧ (overS s lk h kd K).lk = lk) ∧ (∀ i, overO (overS s lk h kd K).h i ↔ overO h i) ∧ overP s h ≤ overP s (overS s lk h kd K).h ∧ overP s h ≤ overP s (overS s lk h kd K).h ∧ (True → True)
    rw [e]
    exact ⟨⟨rfl, rfl, rfl⟩, fun _ => Iff.rfl, Nat.le_refl _, Nat.le_refl _, id⟩
  hi0 := fun _ => trivial
  gstep := fun _ _ _ _ _ _ => ⟨trivial, fun _ => trivial⟩
  goth := fun _ _ _ _ _ _ => trivial
  go := fun {s lk h kd K g} hc hm hd hk _ _ hf => by
    have hm : KI s h K := hm
    have hf : ∀ j, (if h.at_ = 0 then some 0 else if h.at_ = 1 then some h.c else none) = some j → lk j = false := hf
    have hco := hc.cor
    have ht := overP_top hco hm hd.1 hk
    show ((overS s lk h kd K).over = true ∧ overP s h + 1 ≤ 25) ∨ ((overS s lk h kd K).over = false ∧ (overS s lk h kd K).h.at_ = 0 ∧ (overS s lk h kd K).s = s ∧ ¬ True ∧ overP s h + 1 ≤ 0 ∧ overP s h + 1 ≤ 0) ∨
      ((overS s lk h kd K).over = false ∧ overP s h + 1 ≤ overP (overS s lk h kd K).s (overS s lk h kd K).h ∧ overP s h + 1 ≤ overP (overS s lk h kd K).s (overS s lk h kd K).h ∧ ((overS s lk h kd K).s = s → True → True))
    by_cases h0 : h.at_ = 0
    · have hl := hf 0 (by rw [if_pos h0])
      have e : overS s lk h kd K = ⟨s, upd lk 0 true, ⟨1, 0, s.nx 0, h.is_⟩, .none, false⟩ := by unfold overS; rw [if_pos h0, if_pos hl]
      right; right
      rw [e]
      have e1 : overP s h = 0 := by unfold overP; rw [if_pos h0]
      have e2 : 1 ≤ overP s ⟨1, 0, s.nx 0, h.is_⟩ := by unfold overP; simp only [Nat.one_ne_zero, if_false, if_true]; omega
      exact ⟨rfl, by rw [e1]; exact e2, by rw [e1]; exact e2, fun _ h => h⟩
    · by_cases h1 : h.at_ = 1
      · have hl := hf h.c (by rw [if_neg h0, if_pos h1])
        have e : overS s lk h kd K = ⟨s, upd lk h.c true, ⟨2, h.p, h.c, h.is_⟩, .none, false⟩ := by unfold overS; rw [if_neg h0, if_pos h1, if_pos hl]
        right; right
        rw [e]
        have e1 : overP s h = 1 + 2 * (s.key h.c + 1).toNat := by unfold overP; rw [if_neg h0, if_pos h1]
        have e2 : overP s ⟨2, h.p, h.c, h.is_⟩ = 2 + 2 * (s.key h.c + 1).toNat := rfl
        exact ⟨rfl, by rw [e1]; show _ ≤ overP s ⟨2, h.p, h.c, h.is_⟩; rw [e2]; omega, by rw [e1]; show _ ≤ overP s ⟨2, h.p, h.c, h.is_⟩; rw [e2]; omega, fun _ h => h⟩
      · by_cases hk2 : s.key h.c < K
        · have e : overS s lk h kd K = ⟨s, upd lk h.p false, ⟨1, h.c, s.nx h.c, h.is_⟩, .none, false⟩ := by unfold overS; rw [if_neg h0, if_neg h1, if_pos hk2]
          right; right
          rw [e]
          have e1 : overP s h = 2 + 2 * (s.key h.c + 1).toNat := by unfold overP; rw [if_neg h0, if_neg h1]
          have e2 : overP s ⟨1, h.c, s.nx h.c, h.is_⟩ = 1 + 2 * (s.key (s.nx h.c) + 1).toNat := rfl
          have hcl := (hm.clt hco hd.1 h0).1
          have hup := hco.up h.c hcl (key_tl hco hd.1 (.inl hk2))
          have := hk h.c hcl
          have e3 : overP s h + 1 ≤ overP s ⟨1, h.c, s.nx h.c, h.is_⟩ := by rw [e1, e2]; omega
          exact ⟨rfl, e3, e3, fun _ h => h⟩
        · left
          refine ⟨?_, ht⟩
          unfold overS
          rw [if_neg h0, if_neg h1, if_neg hk2]
          repeat' split
          all_goals rfl
  chg := fun {s lk h kd K g c} hc hm hd hch => by
    show ∃ c' x, c' = 0 ∧ x ≤ 1 ∧ (x = 0 → (overS s lk h kd K).s = s) ∧ x + c' + 0 ≤ c + (if (overS s lk h kd K).over = true then 2 else 0)
    by_cases ho : (overS s lk h kd K).over = true
    · exact ⟨0, 1, rfl, Nat.le_refl _, (fun h => by cases h), (by rw [if_pos ho]; omega)⟩
    · refine ⟨0, 0, rfl, by omega, fun _ => ?_, by omega⟩
      revert ho
      unfold overS
      repeat' split
      all_goals first | exact fun _ => rfl | exact fun h => absurd rfl h
  keep := fun _ _ _ _ h => by cases h
  wup := fun {s h kd K g i j} hc hm hd ho hw => by
    have hm : KI s h K := hm
    have hw : (if h.at_ = 0 then some 0 else if h.at_ = 1 then some h.c else none) = some j := hw
    have ho : overO h i := ho
    by_cases h0 : h.at_ = 0
    · rcases ho with ⟨a, _⟩ | ⟨a, _⟩ <;> omega
    · rw [if_neg h0] at hw
      by_cases h1 : h.at_ = 1
      · rw [if_pos h1] at hw
        cases hw
        rcases ho with ⟨_, a⟩ | ⟨a, _⟩
        · rw [a]; exact (hm.clt hc.cor hd.1 h0).2.1
        · omega
      · rw [if_neg h1] at hw
        cases hw
  wlt := fun {s h kd K g j} hc hm hd hw => by
    have hm : KI s h K := hm
    have hw : (if h.at_ = 0 then some 0 else if h.at_ = 1 then some h.c else none) = some j := hw
    by_cases h0 : h.at_ = 0
    · rw [if_pos h0] at hw
      cases hw
      exact hc.cor.pos
    · rw [if_neg h0] at hw
      by_cases h1 : h.at_ = 1
      · rw [if_pos h1] at hw
        cases hw
        exact (hm.clt hc.cor hd.1 h0).1
      · rw [if_neg h1] at hw
        cases hw
  olt := fun {s h kd K g i} hc hm hd ho => by
    have hm : KI s h K := hm
    have ho : overO h i := ho
    have h0 : h.at_ ≠ 0 := by rcases ho with ⟨a, _⟩ | ⟨a, _⟩ <;> omega
    have := hm.clt hc.cor hd.1 h0
    rcases ho with ⟨_, a⟩ | ⟨_, a | a⟩
    · rw [a]; exact this.2.2
    · rw [a]; exact this.2.2
    · rw [a]; exact this.1
  pd1 := fun _ => Nat.zero_le _
  own0 := fun _ _ _ _ h => by cases h
  lk3 := fun {s lk h kd K g} hc hm hd i hi => by
    have hm : KI s h K := hm
    have hi : (overS s lk h kd K).lk i = true := hi
    show overO (overS s lk h kd K).nh i ∨ (lk i = true ∧ ¬ overO h i)
    have hfre : ∀ i, fre lk h i = true → lk i = true ∧ ¬ overO h i := fun i hi => by
      unfold fre at hi
      have h1 : i ≠ h.c := fun e => by rw [e, upd_same] at hi; cases hi
      rw [upd_other _ _ h1] at hi
      have h2 : i ≠ h.p := fun e => by rw [e, upd_same] at hi; cases hi
      rw [upd_other _ _ h2] at hi
      refine ⟨hi, fun ho => ?_⟩
      rcases ho with ⟨_, a⟩ | ⟨_, a | a⟩
      · exact h2 a
      · exact h2 a
      · exact h1 a
    by_cases h0 : h.at_ = 0
    · by_cases hl : lk 0 = false
      · have e : overS s lk h kd K = ⟨s, upd lk 0 true, ⟨1, 0, s.nx 0, h.is_⟩, .none, false⟩ := by unfold overS; rw [if_pos h0, if_pos hl]
        rw [e] at hi ⊢
        by_cases ei : i = 0
        · left; exact .inl ⟨rfl, ei⟩
        · right
          refine ⟨?_, fun ho => by rcases ho with ⟨a, _⟩ | ⟨a, _⟩ <;> omega⟩
          have hi : upd lk 0 true i = true := hi
          rw [upd_other _ _ ei] at hi
          exact hi
      · have e : overS s lk h kd K = ⟨s, lk, h, .none, false⟩ := by unfold overS; rw [if_pos h0, if_neg hl]
        rw [e] at hi ⊢
        right
        exact ⟨hi, fun ho => by rcases ho with ⟨a, _⟩ | ⟨a, _⟩ <;> omega⟩
    · by_cases h1 : h.at_ = 1
      · by_cases hl : lk h.c = false
        · have e : overS s lk h kd K = ⟨s, upd lk h.c true, ⟨2, h.p, h.c, h.is_⟩, .none, false⟩ := by unfold overS; rw [if_neg h0, if_pos h1, if_pos hl]
          rw [e] at hi ⊢
          by_cases ei : i = h.c
          · left; exact .inr ⟨rfl, .inr ei⟩
          · have hi : upd lk h.c true i = true := hi
            rw [upd_other _ _ ei] at hi
            by_cases ep : i = h.p
            · left; exact .inr ⟨rfl, .inl ep⟩
            · right
              exact ⟨hi, fun ho => by rcases ho with ⟨_, a⟩ | ⟨a, _⟩ <;> first | exact ep a | omega⟩
        · have e : overS s lk h kd K = ⟨s, lk, h, .none, false⟩ := by unfold overS; rw [if_neg h0, if_pos h1, if_neg hl]
          rw [e] at hi ⊢
          have hi : lk i = true := hi
          by_cases ep : overO h i
          · left; exact ep
          · right; exact ⟨hi, ep⟩
      · by_cases hk2 : s.key h.c < K
        · have e : overS s lk h kd K = ⟨s, upd lk h.p false, ⟨1, h.c, s.nx h.c, h.is_⟩, .none, false⟩ := by unfold overS; rw [if_neg h0, if_neg h1, if_pos hk2]
          rw [e] at hi ⊢
          have hi : upd lk h.p false i = true := hi
          have ep : i ≠ h.p := fun e => by rw [e, upd_same] at hi; cases hi
          rw [upd_other _ _ ep] at hi
          by_cases ec : i = h.c
          · left; exact .inl ⟨rfl, ec⟩
          · right
            exact ⟨hi, fun ho => by rcases ho with ⟨_, a⟩ | ⟨_, a | a⟩ <;> first | exact ep a | exact ec a⟩
        · right
          have e : (overS s lk h kd K).lk = fre lk h := by
            unfold overS
            rw [if_neg h0, if_neg h1, if_neg hk2]
            repeat' split
            all_goals rfl
          rw [e] at hi
          exact hfre i hi

end Go.Proofs.Ytfmdpmebllepeaa

/-
  THOSE THAT MARK: how far, how long the chain is: plain mathematics. Nothing of the program.
-/
namespace Go.Proofs.Ytfmdpmebllepeaa

inductive Pn (nx : Nat → Nat) (tl : Nat) : Nat → Nat → Prop
  | last : Pn nx tl tl 0
  | step {a n : Nat} : a ≠ tl → Pn nx tl (nx a) n → Pn nx tl a (n + 1)
theorem Pn.same {nx nx' : Nat → Nat} {tl a n : Nat} (h : Pn nx tl a n) : (∀ b, Rn nx tl a b → b ≠ tl → nx' b = nx b) → Pn nx' tl a n := by
  induction h with
  | last => exact fun _ => .last
  | @step a n h1 _ ih =>
    intro hs
    refine .step h1 ?_
    rw [hs a .refl h1]
    exact ih (fun b hb => hs b (.step h1 hb))
theorem Pn.end_ {nx : Nat → Nat} {tl a n : Nat} (h : Pn nx tl a n) (h0 : n = 0) : a = tl := by
  cases h with
  | last => rfl
  | step _ _ => cases h0
theorem Cor.back {s : Bs} (h : Cor s) {p : Nat} (hp : p < s.sz) (hpt : p ≠ s.tl) : ¬ Rn s.nx s.tl (s.nx p) p := fun hr => by
  have h1 := h.up p hp hpt
  have h2 := (h.reach_key hr (h.nlt p hp hpt)).1
  omega
theorem pn_ins {s : Bs} (h : Cor s) {p : Nat} {K : Int} (hp : p < s.sz) (hpt : p ≠ s.tl) {a n : Nat} (hn : Pn s.nx s.tl a n) : a < s.sz → Rn s.nx s.tl a p → Pn (s.ins p K).nx (s.ins p K).tl a (n + 1) := by
  have htz : s.sz ≠ s.tl := by have := h.tlt; omega
  have nO : ∀ b, b < s.sz → b ≠ p → (s.ins p K).nx b = s.nx b := fun b hb hne => by
    show upd (upd s.nx s.sz (s.nx p)) p s.sz b = s.nx b
    rw [upd_other _ _ hne, upd_other _ _ (by omega)]
  induction hn with
  | last =>
    intro _ hr
    cases hr with
    | refl => exact absurd rfl hpt
    | step h1 _ => exact absurd rfl h1
  | @step a n h1 hn ih =>
    intro ha hr
    by_cases e : a = p
    · subst e
      have e1 : (s.ins a K).nx a = s.sz := upd_same _ _ _
      have e2 : (s.ins a K).nx s.sz = s.nx a := by
        show upd (upd s.nx s.sz (s.nx a)) a s.sz s.sz = s.nx a
        rw [upd_other _ _ (by omega), upd_same]
      refine .step h1 ?_
      rw [e1]
      refine .step htz ?_
      rw [e2]
      refine hn.same (fun b hb _ => nO b (h.reach_lt hb (h.nlt a ha h1)) (fun e => h.back ha h1 (by rw [e] at hb; exact hb)))
    · refine .step h1 ?_
      rw [nO a ha e]
      exact ih (h.nlt a ha h1) (hr.next e).2
theorem pn_cut {s : Bs} (h : Cor s) {p c : Nat} (hp : p < s.sz) (hpt : p ≠ s.tl) (hpc : s.nx p = c) (hct : c ≠ s.tl) {a n : Nat} (hn : Pn s.nx s.tl a n) : a < s.sz → Rn s.nx s.tl a p → ∃ m, n = m + 1 ∧ Pn (s.cut p c).nx (s.cut p c).tl a m := by
  have hc : c < s.sz := by rw [← hpc]; exact h.nlt p hp hpt
  have nO : ∀ b, b ≠ p → (s.cut p c).nx b = s.nx b := fun b hne => upd_other _ _ hne
  induction hn with
  | last =>
    intro _ hr
    cases hr with
    | refl => exact absurd rfl hpt
    | step h1 _ => exact absurd rfl h1
  | @step a n h1 hn ih =>
    intro ha hr
    by_cases e : a = p
    · subst e
      rw [hpc] at hn
      cases hn with
      | last => exact absurd rfl hct
      | @step _ m h2 hn2 =>
        refine ⟨m + 1, rfl, .step h1 ?_⟩
        have e1 : (s.cut a c).nx a = s.nx c := upd_same _ _ _
        rw [e1]
        refine hn2.same (fun b hb _ => nO b (fun e => h.back ha h1 ?_))
        rw [hpc]
        rw [e] at hb
        exact .step h2 hb
    · obtain ⟨m, e1, e2⟩ := ih (h.nlt a ha h1) (hr.next e).2
      refine ⟨m + 1, by omega, .step h1 ?_⟩
      rw [nO a e]
      exact e2

def markP (s : Bs) (h : Hd) : Nat := if h.at_ = 0 then 0 else if h.at_ = 1 then 1 + (s.key h.c + 1).toNat else 11 + h.at_
def markV (s : Bs) (h : Hd) (kd : Int) : Prop := kd = 3 ∨ h.at_ = 0 ∨ h.at_ = 3 ∨ (clean s h ∧ (h.at_ = 2 → s.mrk h.c = false))
def tMark : AlgT := ⟨markP, fun _ _ => 0, markV, fun _ _ _ _ => none, fun _ _ _ _ => 0, fun s c => Pn s.nx s.tl 0 (c + 1), fun h => if h.at_ = 3 then 1 else 0, fun _ _ => True, fun _ _ => True, 14, 15, 0, 0⟩
theorem markP_top {s : Bs} {h : Hd} {kd K : Int} {g : Prop} (hm : MI s h kd K g) (hk : KB s) : markP s h + 1 ≤ 15 ∧ (h.at_ ≠ 3 → markP s h + 1 ≤ 14) := by
  have hle := hm.le
  unfold markP
  by_cases h0 : h.at_ = 0
  · rw [if_pos h0]; omega
  · have := hk h.c (hm.pc h0).2.1
    rw [if_neg h0]
    split <;> omega
theorem tMark_ok : AlgTOk aMark tMark where
  kb := fun {s lk h kd K g} hc hm hd hk => by
    show KB (markS s h kd K).s
    unfold markS
    repeat' split
    all_goals first | exact hk | exact kb_ins hk hd.1
  pg := fun {s s' h kd K g} hc hm hd hg => by
    have hm : MI s h kd K g := hm
    refine ⟨?_, rfl⟩
    show markP s' h = markP s h
    unfold markP
    by_cases h0 : h.at_ = 0
    · rw [if_pos h0, if_pos h0]
    · rw [hg.key _ (hm.pc h0).2.1]
  zero := fun s h kd h0 => ⟨.inr (.inl h0), by show markP s h = 0; unfold markP; rw [if_pos h0], rfl⟩
  pd0 := rfl
  top := fun {s h kd K g} hc hm hd hk => ⟨(markP_top (show MI s h kd K g from hm) hk).1, Nat.le_refl _⟩
  wait := fun _ _ _ h => by cases h
  hi0 := fun _ => trivial
  gstep := fun _ _ _ _ _ _ => ⟨trivial, fun _ => trivial⟩
  goth := fun _ _ _ _ _ _ => trivial
  go := fun {s lk h kd K g} hc hm hd hk _ _ _ => by
    have hm : MI s h kd K g := hm
    have hc : Cor s := hc
    have ht := markP_top hm hk
    have hle := hm.le
    show ((markS s h kd K).over = true ∧ 0 + 0 ≤ 0) ∨ ((markS s h kd K).over = false ∧ (markS s h kd K).h.at_ = 0 ∧ (markS s h kd K).s = s ∧ ¬ markV s h kd ∧ markP s h + 1 ≤ 14 ∧ 0 + 0 ≤ 0) ∨
      ((markS s h kd K).over = false ∧ markP s h + 1 ≤ markP (markS s h kd K).s (markS s h kd K).h ∧ 0 + 0 ≤ 0 ∧ ((markS s h kd K).s = s → markV s h kd → markV s (markS s h kd K).h kd))
    rcases (show h.at_ = 0 ∨ h.at_ = 1 ∨ h.at_ = 2 ∨ h.at_ = 3 by omega) with h0 | h0 | h0 | h0
    · have e : markS s h kd K = ⟨s, ⟨1, 0, s.nx 0, h.is_⟩, .none, false⟩ := by unfold markS; rw [if_pos h0]
      rw [e]
      right; right
      have e1 : markP s h = 0 := by unfold markP; rw [if_pos h0]
      have e2 : markP s ⟨1, 0, s.nx 0, h.is_⟩ = 1 + (s.key (s.nx 0) + 1).toNat := rfl
      exact ⟨rfl, by rw [e1]; show _ ≤ markP s ⟨1, 0, s.nx 0, h.is_⟩; rw [e2]; omega, Nat.le_refl _, fun _ _ => .inr (.inr (.inr ⟨⟨hc.m0, rfl⟩, fun h => by cases h⟩))⟩
    · obtain ⟨hp, hcl, hpK⟩ := hm.pc (by omega)
      have e0 : markS s h kd K = (if s.mrk h.c = true ∧ kd ≠ 3 then (if clean s h then ⟨s.cut h.p h.c, ⟨1, h.p, s.nx h.c, h.is_⟩, .none, false⟩ else ⟨s, ⟨0, h.p, h.c, h.is_⟩, .none, false⟩)
         else if s.key h.c < K then ⟨s, ⟨1, h.c, s.nx h.c, h.is_⟩, .none, false⟩
         else if kd = 3 then ⟨s, ⟨1, h.p, h.c, decide (s.key h.c = K) && !s.mrk h.c⟩, .none, true⟩
         else if (kd = 1 ∧ s.key h.c = K) ∨ (kd = 2 ∧ s.key h.c ≠ K) then ⟨s, ⟨1, h.p, h.c, false⟩, .none, true⟩
         else ⟨s, ⟨2, h.p, h.c, h.is_⟩, .none, false⟩) := by unfold markS; rw [if_neg (by omega), if_pos h0]
      have e1 : markP s h = 1 + (s.key h.c + 1).toNat := by unfold markP; rw [if_neg (by omega), if_pos h0]
      have hkc := hk h.c hcl
      by_cases c1 : s.mrk h.c = true ∧ kd ≠ 3
      · rw [if_pos c1] at e0
        by_cases c2 : clean s h
        · rw [if_pos c2] at e0
          rw [e0]
          right; right
          have hct : h.c ≠ s.tl := fun e => by have := hc.mt; rw [← e, c1.1] at this; cases this
          have hup := hc.up h.c hcl hct
          have e2 : markP (s.cut h.p h.c) ⟨1, h.p, s.nx h.c, h.is_⟩ = 1 + (s.key (s.nx h.c) + 1).toNat := rfl
          refine ⟨rfl, by rw [e1]; show _ ≤ markP (s.cut h.p h.c) ⟨1, h.p, s.nx h.c, h.is_⟩; rw [e2]; omega, Nat.le_refl _, fun es _ => .inr (.inr (.inr ⟨⟨c2.1, ?_⟩, fun h => by cases h⟩))⟩
          have e3 : (s.cut h.p h.c).nx h.p = s.nx h.c := upd_same _ _ _
          have e4 : s.cut h.p h.c = s := es
          rw [e4] at e3
          exact e3
        · rw [if_neg c2] at e0
          rw [e0]
          right; left
          refine ⟨rfl, rfl, rfl, fun hv => ?_, ht.2 (by omega), Nat.le_refl _⟩
          rcases hv with a | a | a | ⟨a, _⟩
          · exact c1.2 a
          · omega
          · omega
          · exact c2 a
      · rw [if_neg c1] at e0
        by_cases c2 : s.key h.c < K
        · rw [if_pos c2] at e0
          rw [e0]
          right; right
          have hup := hc.up h.c hcl (key_tl hc hd.1 (.inl c2))
          have e2 : markP s ⟨1, h.c, s.nx h.c, h.is_⟩ = 1 + (s.key (s.nx h.c) + 1).toNat := rfl
          refine ⟨rfl, by rw [e1]; show _ ≤ markP s ⟨1, h.c, s.nx h.c, h.is_⟩; rw [e2]; omega, Nat.le_refl _, fun _ _ => ?_⟩
          by_cases k3 : kd = 3
          · exact .inl k3
          · have hmc : s.mrk h.c = false := by
              cases e : s.mrk h.c with
              | false => rfl
              | true => exact absurd ⟨e, k3⟩ c1
            exact .inr (.inr (.inr ⟨⟨hmc, rfl⟩, fun h => by cases h⟩))
        · rw [if_neg c2] at e0
          by_cases c3 : kd = 3
          · rw [if_pos c3] at e0
            rw [e0]
            exact .inl ⟨rfl, Nat.le_refl _⟩
          · rw [if_neg c3] at e0
            by_cases c4 : (kd = 1 ∧ s.key h.c = K) ∨ (kd = 2 ∧ s.key h.c ≠ K)
            · rw [if_pos c4] at e0
              rw [e0]
              exact .inl ⟨rfl, Nat.le_refl _⟩
            · rw [if_neg c4] at e0
              rw [e0]
              right; right
              have hmc : s.mrk h.c = false := by
                cases e : s.mrk h.c with
                | false => rfl
                | true => exact absurd ⟨e, c3⟩ c1
              have e2 : markP s ⟨2, h.p, h.c, h.is_⟩ = 13 := rfl
              refine ⟨rfl, by rw [e1]; show _ ≤ markP s ⟨2, h.p, h.c, h.is_⟩; rw [e2]; omega, Nat.le_refl _, fun _ hv => ?_⟩
              rcases hv with a | a | a | ⟨a, _⟩
              · exact .inl a
              · omega
              · omega
              · exact .inr (.inr (.inr ⟨a, fun _ => hmc⟩))
    · have e0 : markS s h kd K = (if kd = 1 ∧ clean s h then ⟨s.ins h.p K, ⟨2, h.p, h.c, true⟩, .add K, true⟩
         else if kd = 2 ∧ s.mrk h.c = false then ⟨s.mark h.c, ⟨3, h.p, h.c, true⟩, .del K, false⟩
         else ⟨s, ⟨0, h.p, h.c, h.is_⟩, .none, false⟩) := by unfold markS; rw [if_neg (by omega), if_neg (by omega), if_pos h0]
      have e1 : markP s h = 13 := by unfold markP; rw [if_neg (by omega), if_neg (by omega), h0]
      by_cases c1 : kd = 1 ∧ clean s h
      · rw [if_pos c1] at e0
        rw [e0]
        exact .inl ⟨rfl, Nat.le_refl _⟩
      · rw [if_neg c1] at e0
        by_cases c2 : kd = 2 ∧ s.mrk h.c = false
        · rw [if_pos c2] at e0
          rw [e0]
          right; right
          exact ⟨rfl, by rw [e1]; exact Nat.le_refl _, Nat.le_refl _, fun _ _ => .inr (.inr (.inl rfl))⟩
        · rw [if_neg c2] at e0
          rw [e0]
          right; left
          refine ⟨rfl, rfl, rfl, fun hv => ?_, by rw [e1]; exact Nat.le_refl _, Nat.le_refl _⟩
          rcases hm.two h0 with ⟨k1, _⟩ | ⟨k2, _⟩
          · rcases hv with a | a | a | ⟨a, _⟩
            · omega
            · omega
            · omega
            · exact c1 ⟨k1, a⟩
          · rcases hv with a | a | a | ⟨_, a⟩
            · omega
            · omega
            · omega
            · exact c2 ⟨k2, a h0⟩
    · left
      refine ⟨?_, Nat.le_refl _⟩
      exact markS_pend h0
  chg := fun {s lk h kd K g c} hc hm hd hch => by
    have hm : MI s h kd K g := hm
    have hc : Cor s := hc
    have hch : Pn s.nx s.tl 0 (c + 1) := hch
    have hle := hm.le
    show ∃ c' x, Pn (markS s h kd K).s.nx (markS s h kd K).s.tl 0 (c' + 1) ∧ x ≤ 1 ∧ (x = 0 → (markS s h kd K).s = s) ∧ x + c' + (if h.at_ = 3 then 1 else 0) ≤ c + (if (markS s h kd K).over = true then 2 else if (markS s h kd K).h.at_ = 3 then 1 else 0)
    have same : ∀ r : Res, r.s = s → (h.at_ = 3 → r.over = true) → ∃ c' x, Pn r.s.nx r.s.tl 0 (c' + 1) ∧ x ≤ 1 ∧ (x = 0 → r.s = s) ∧ x + c' + (if h.at_ = 3 then 1 else 0) ≤ c + (if r.over = true then 2 else if r.h.at_ = 3 then 1 else 0) := fun r hr h3 => by
      refine ⟨c, 0, by rw [hr]; exact hch, by omega, fun _ => hr, ?_⟩
      by_cases e : h.at_ = 3
      · rw [if_pos e, if_pos (h3 e)]; omega
      · rw [if_neg e]; omega
    have hcut : clean s h → s.mrk h.c = true → h.p < s.sz → s.key h.p < K → ∃ m, c = m + 1 ∧ Pn (s.cut h.p h.c).nx (s.cut h.p h.c).tl 0 (m + 1) := fun hcl hmc hp hpK => by
      have hct : h.c ≠ s.tl := fun e => by have := hc.mt; rw [← e, hmc] at this; cases this
      obtain ⟨m, e1, e2⟩ := pn_cut hc hp (key_tl hc hd.1 (.inl hpK)) hcl.2 hct hch hc.pos (hc.all _ hp hcl.1)
      cases m with
      | zero => exact absurd (e2.end_ rfl).symm hc.hd
      | succ m => exact ⟨m, by omega, e2⟩
    rcases (show h.at_ = 0 ∨ h.at_ = 1 ∨ h.at_ = 2 ∨ h.at_ = 3 by omega) with h0 | h0 | h0 | h0
    · have e : markS s h kd K = ⟨s, ⟨1, 0, s.nx 0, h.is_⟩, .none, false⟩ := by unfold markS; rw [if_pos h0]
      rw [e]
      exact same _ rfl (fun e => by omega)
    · obtain ⟨hp, hcl, hpK⟩ := hm.pc (by omega)
      have e0 : markS s h kd K = (if s.mrk h.c = true ∧ kd ≠ 3 then (if clean s h then ⟨s.cut h.p h.c, ⟨1, h.p, s.nx h.c, h.is_⟩, .none, false⟩ else ⟨s, ⟨0, h.p, h.c, h.is_⟩, .none, false⟩)
         else if s.key h.c < K then ⟨s, ⟨1, h.c, s.nx h.c, h.is_⟩, .none, false⟩
         else if kd = 3 then ⟨s, ⟨1, h.p, h.c, decide (s.key h.c = K) && !s.mrk h.c⟩, .none, true⟩
         else if (kd = 1 ∧ s.key h.c = K) ∨ (kd = 2 ∧ s.key h.c ≠ K) then ⟨s, ⟨1, h.p, h.c, false⟩, .none, true⟩
         else ⟨s, ⟨2, h.p, h.c, h.is_⟩, .none, false⟩) := by unfold markS; rw [if_neg (by omega), if_pos h0]
      by_cases c1 : s.mrk h.c = true ∧ kd ≠ 3
      · rw [if_pos c1] at e0
        by_cases c2 : clean s h
        · rw [if_pos c2] at e0
          rw [e0]
          obtain ⟨m, e1, e2⟩ := hcut c2 c1.1 hp hpK
          refine ⟨m, 1, e2, Nat.le_refl _, fun h => (by cases h), ?_⟩
          rw [if_neg (by omega)]
          omega
        · rw [if_neg c2] at e0
          rw [e0]
          exact same _ rfl (fun e => by omega)
      · rw [if_neg c1] at e0
        have hs : (markS s h kd K).s = s := by
          rw [e0]
          repeat' split
          all_goals rfl
        exact same _ hs (fun e => by omega)
    · obtain ⟨hp, hcl, hpK⟩ := hm.pc (by omega)
      have e0 : markS s h kd K = (if kd = 1 ∧ clean s h then ⟨s.ins h.p K, ⟨2, h.p, h.c, true⟩, .add K, true⟩
         else if kd = 2 ∧ s.mrk h.c = false then ⟨s.mark h.c, ⟨3, h.p, h.c, true⟩, .del K, false⟩
         else ⟨s, ⟨0, h.p, h.c, h.is_⟩, .none, false⟩) := by unfold markS; rw [if_neg (by omega), if_neg (by omega), if_pos h0]
      by_cases c1 : kd = 1 ∧ clean s h
      · rw [if_pos c1] at e0
        rw [e0]
        refine ⟨c + 1, 1, pn_ins hc hp (key_tl hc hd.1 (.inl hpK)) hch hc.pos (hc.all _ hp c1.2.1), Nat.le_refl _, fun h => (by cases h), ?_⟩
        rw [if_neg (by omega), if_pos rfl]
        omega
      · rw [if_neg c1] at e0
        by_cases c2 : kd = 2 ∧ s.mrk h.c = false
        · rw [if_pos c2] at e0
          rw [e0]
          refine ⟨c, 1, hch, Nat.le_refl _, fun h => (by cases h), ?_⟩
          rw [if_neg (by omega), if_neg (by simp), if_pos rfl]
          omega
        · rw [if_neg c2] at e0
          rw [e0]
          exact same _ rfl (fun e => by omega)
    · obtain ⟨hp, hcl, hpK⟩ := hm.pc (by omega)
      obtain ⟨_, _, hmc, _⟩ := hm.three h0
      have e0 : markS s h kd K = if clean s h then ⟨s.cut h.p h.c, h, .none, true⟩ else ⟨s, h, .none, true⟩ := by unfold markS; rw [if_neg (by omega), if_neg (by omega), if_neg (by omega)]
      by_cases c1 : clean s h
      · rw [if_pos c1] at e0
        rw [e0]
        obtain ⟨m, e1, e2⟩ := hcut c1 hmc hp hpK
        refine ⟨m, 1, e2, Nat.le_refl _, fun h => (by cases h), ?_⟩
        rw [if_pos h0, if_pos rfl]
        omega
      · rw [if_neg c1] at e0
        rw [e0]
        exact same _ rfl (fun _ => rfl)
  keep := fun {s lk h kd K g} _ _ _ _ _ => ⟨rfl, fun _ => Iff.rfl⟩
  wup := fun _ _ _ h => h.elim
  wlt := fun _ _ _ h => by cases h
  olt := fun _ _ _ h => h.elim
  pd1 := fun h => by show (if h.at_ = 3 then 1 else 0) ≤ 1; split <;> omega
  own0 := fun _ _ _ h => h.elim
  lk3 := fun {s lk h kd K g} _ _ _ i hi => .inr ⟨hi, fun h => h⟩

end Go.Proofs.Ytfmdpmebllepeaa
