/-
  Joined texts: YtfmdpmebllepeaaMTimeL, YtfmdpmebllepeaaMEnd, YtfmdpmebllepeaaMLeft, YtfmdpmebllepeaaMFree, YtfmdpmebllepeaaMAlone, YtfmdpmebllepeaaMAlone2, YtfmdpmebllepeaaMNaive, YtfmdpmebllepeaaMNaiveW, YtfmdpmebllepeaaMNaiveE, YtfmdpmebllepeaaMLives, YtfmdpmebllepeaaUPlain, YtfmdpmebllepeaaUTell.
-/
import Derived.Test.YtfmdpmebllepeaaMTimeMAll
/-
  THOSE THAT LOOK TWICE: how far, which locks, whom they wait for: plain mathematics. Nothing of the program.
-/
namespace Go.Proofs.Ytfmdpmebllepeaa

theorem ins_back {s : Bs} (h : Cor s) {p : Nat} {K : Int} (hp : p < s.sz) (hpt : p ≠ s.tl) {a b : Nat} (hr : Rn (s.ins p K).nx s.tl a b) : b < s.sz → (a < s.sz → Rn s.nx s.tl a b) ∧ (a = s.sz → Rn s.nx s.tl (s.nx p) b) := by
  induction hr with
  | refl => exact fun hb => ⟨fun _ => .refl, fun e => by omega⟩
  | @step a b h1 _ ih =>
    intro hb
    have ih := ih hb
    refine ⟨fun ha => ?_, fun e => ?_⟩
    · by_cases e : a = p
      · subst e
        exact .step h1 (ih.2 (upd_same _ _ _))
      · have e1 : (s.ins p K).nx a = s.nx a := by
          show upd (upd s.nx s.sz (s.nx p)) p s.sz a = s.nx a
          rw [upd_other _ _ e, upd_other _ _ (by omega)]
        rw [e1] at ih
        exact .step h1 (ih.1 (h.nlt a ha h1))
    · subst e
      have e1 : (s.ins p K).nx s.sz = s.nx p := by
        show upd (upd s.nx s.sz (s.nx p)) p s.sz s.sz = s.nx p
        rw [upd_other _ _ (by omega), upd_same]
      rw [e1] at ih
      exact ih.1 (h.nlt p hp hpt)
theorem cut_back {s : Bs} {p c : Nat} (hpt : p ≠ s.tl) (hn : s.nx p = c) (hct : c ≠ s.tl) {a b : Nat} (hr : Rn (s.cut p c).nx s.tl a b) : Rn s.nx s.tl a b := by
  induction hr with
  | refl => exact .refl
  | @step a b h1 _ ih =>
    by_cases e : a = p
    · subst e
      have e1 : (s.cut a c).nx a = s.nx c := upd_same _ _ _
      rw [e1] at ih
      refine .step h1 ?_
      rw [hn]
      exact .step hct ih
    · have e1 : (s.cut p c).nx a = s.nx a := upd_other _ _ e
      rw [e1] at ih
      exact .step h1 ih
theorem cut_gone {s : Bs} (h : Cor s) {p c : Nat} (hp : p < s.sz) (hpt : p ≠ s.tl) (mp : s.mrk p = false) (hn : s.nx p = c) (hct : c ≠ s.tl) {a b : Nat} (hr : Rn (s.cut p c).nx s.tl a b) : a < s.sz → Rn s.nx s.tl 0 a → a ≠ c → b ≠ c := by
  have hc : c < s.sz := by rw [← hn]; exact h.nlt p hp hpt
  induction hr with
  | refl => exact fun _ _ hne => hne
  | @step a b h1 _ ih =>
    intro ha hra hne
    by_cases e : a = p
    · subst e
      have e1 : (s.cut a c).nx a = s.nx c := upd_same _ _ _
      rw [e1] at ih
      refine ih (h.nlt c hc hct) ?_ (fun e => by have := h.up c hc hct; rw [e] at this; omega)
      have : Rn s.nx s.tl 0 c := by rw [← hn]; exact hra.snoc h1
      exact this.snoc hct
    · have e1 : (s.cut p c).nx a = s.nx a := upd_other _ _ e
      rw [e1] at ih
      refine ih (h.nlt a ha h1) (hra.snoc h1) (fun e2 => ?_)
      rcases (h.all p hp mp).total hra with h3 | h3
      · have h4 := (h3.next (fun e3 => e e3.symm)).2
        rw [hn] at h4
        have h5 := (h.reach_key h4 hc).1
        have h6 := h.up a ha h1
        rw [e2] at h6
        omega
      · have h4 := (h3.next e).2
        rw [e2] at h4
        have h5 := (h.reach_key h4 hc).1
        have h6 := h.up p hp hpt
        rw [hn] at h6
        omega

inductive LzV (s : Bs) (lk : Nat → Bool) (h : Hd) (kd K : Int) : Rel → Prop
  | s0 : h.at_ = 0 → LzV s lk h kd K ⟨s, lk, ⟨1, 0, s.nx 0, h.is_⟩, .none, false⟩
  | walk : h.at_ = 1 → s.key h.c < K → LzV s lk h kd K ⟨s, lk, ⟨1, h.c, s.nx h.c, h.is_⟩, .none, false⟩
  | has (b : Bool) : h.at_ = 1 → ¬ s.key h.c < K → kd = 3 → LzV s lk h kd K ⟨s, lk, ⟨1, h.p, h.c, b⟩, .none, true⟩
  | lkp : (h.at_ = 1 ∧ ¬ s.key h.c < K ∧ kd ≠ 3) ∨ h.at_ = 2 → lk h.p = false → LzV s lk h kd K ⟨s, upd lk h.p true, ⟨3, h.p, h.c, h.is_⟩, .none, false⟩
  | wtp : (h.at_ = 1 ∧ ¬ s.key h.c < K ∧ kd ≠ 3) ∨ h.at_ = 2 → lk h.p = true → LzV s lk h kd K ⟨s, lk, ⟨2, h.p, h.c, h.is_⟩, .none, false⟩
  | lkc : h.at_ = 3 → lk h.c = false → LzV s lk h kd K ⟨s, upd lk h.c true, ⟨4, h.p, h.c, h.is_⟩, .none, false⟩
  | wtc : h.at_ = 3 → lk h.c = true → LzV s lk h kd K ⟨s, lk, ⟨3, h.p, h.c, h.is_⟩, .none, false⟩
  | fail : h.at_ = 4 → (s.mrk h.p = true ∨ s.mrk h.c = true ∨ s.nx h.p ≠ h.c) → LzV s lk h kd K ⟨s, fre lk h, ⟨0, h.p, h.c, h.is_⟩, .none, false⟩
  | mark : h.at_ = 4 → kd = 2 → s.key h.c = K → LzV s lk h kd K ⟨s.mark h.c, lk, ⟨5, h.p, h.c, true⟩, .del K, false⟩
  | no (b : Bool) : h.at_ = 4 → LzV s lk h kd K ⟨s, fre lk h, ⟨4, h.p, h.c, b⟩, .none, true⟩
  | ins : h.at_ = 4 → LzV s lk h kd K ⟨s.ins h.p K, fre lk h, ⟨4, h.p, h.c, true⟩, .add K, true⟩
  | cut : h.at_ = 5 → LzV s lk h kd K ⟨s.cut h.p h.c, fre lk h, h, .none, true⟩
theorem lzV {s : Bs} {lk : Nat → Bool} {h : Hd} {kd K : Int} (hle : h.at_ ≤ 5) : LzV s lk h kd K (lazyS s lk h kd K) := by
  have nf : ∀ {b : Bool}, ¬ b = false → b = true := fun {b} hb => by cases b <;> simp_all
  unfold lazyS
  by_cases h0 : h.at_ = 0
  · rw [if_pos h0]; exact .s0 h0
  rw [if_neg h0]
  by_cases h1 : h.at_ = 1
  · rw [if_pos h1]
    by_cases c1 : s.key h.c < K
    · rw [if_pos c1]; exact .walk h1 c1
    rw [if_neg c1]
    by_cases c2 : kd = 3
    · rw [if_pos c2]; exact .has _ h1 c1 c2
    rw [if_neg c2]
    by_cases c3 : lk h.p = false
    · rw [if_pos c3]; exact .lkp (.inl ⟨h1, c1, c2⟩) c3
    · rw [if_neg c3]; exact .wtp (.inl ⟨h1, c1, c2⟩) (nf c3)
  rw [if_neg h1]
  by_cases h2 : h.at_ = 2
  · rw [if_pos h2]
    by_cases c3 : lk h.p = false
    · rw [if_pos c3]; exact .lkp (.inr h2) c3
    · rw [if_neg c3]
      have := LzV.wtp (s := s) (kd := kd) (K := K) (.inr h2) (nf c3)
      rw [← h2] at this
      exact this
  rw [if_neg h2]
  by_cases h3 : h.at_ = 3
  · rw [if_pos h3]
    by_cases c3 : lk h.c = false
    · rw [if_pos c3]; exact .lkc h3 c3
    · rw [if_neg c3]
      have := LzV.wtc (s := s) (kd := kd) (K := K) h3 (nf c3)
      rw [← h3] at this
      exact this
  rw [if_neg h3]
  by_cases h4 : h.at_ = 4
  · rw [if_pos h4]
    by_cases c1 : s.mrk h.p = true ∨ s.mrk h.c = true ∨ s.nx h.p ≠ h.c
    · rw [if_pos c1]; exact .fail h4 c1
    rw [if_neg c1]
    by_cases c2 : kd = 2
    · rw [if_pos c2]
      by_cases c3 : s.key h.c = K
      · rw [if_pos c3]; exact .mark h4 c2 c3
      · rw [if_neg c3]; exact .no _ h4
    · rw [if_neg c2]
      by_cases c3 : s.key h.c = K
      · rw [if_pos c3]; exact .no _ h4
      · rw [if_neg c3]; exact .ins h4
  · rw [if_neg h4]; exact .cut (by omega)

theorem lz_back {s : Bs} {lk : Nat → Bool} {h : Hd} {kd K : Int} {g : Prop} {r : Rel} (hc : Cor s) (hm : LI s h kd K g) (hd : Dee kd K) (hv : LzV s lk h kd K r) {i : Nat} (hi : i < s.sz) : (Rn r.s.nx r.s.tl 0 i → Rn s.nx s.tl 0 i) ∧ (¬ lazyO h i → r.s.mrk i = s.mrk i) := by
  cases hv with
  | mark h4 _ _ => exact ⟨id, fun hn => upd_other _ _ (fun e => hn (.inr ⟨.inl h4, .inr e⟩))⟩
  | ins h4 =>
    obtain ⟨hp, _, hpK⟩ := hm.pc (by omega)
    exact ⟨fun hr => (ins_back hc hp (key_tl hc hd.1 (.inl hpK)) hr hi).1 hc.pos, fun _ => upd_other _ _ (by omega)⟩
  | cut h5 =>
    obtain ⟨hp, _, hpK⟩ := hm.pc (by omega)
    obtain ⟨_, _, mc, mp, hn, _⟩ := hm.five h5
    exact ⟨fun hr => cut_back (key_tl hc hd.1 (.inl hpK)) hn (fun e => by have := hc.mt; rw [← e, mc] at this; cases this) hr, fun _ => rfl⟩
  | _ => exact ⟨id, fun _ => rfl⟩

def lazyP (s : Bs) (h : Hd) : Nat := if h.at_ = 0 then 0 else if h.at_ = 1 then 1 + min (s.key h.c + 1).toNat 10 else 9 + h.at_
def lazyV (s : Bs) (h : Hd) (kd : Int) : Prop := kd = 3 ∨ h.at_ = 0 ∨ h.at_ = 5 ∨ (Rn s.nx s.tl 0 h.p ∧ s.nx h.p = h.c ∧ (3 ≤ h.at_ → s.mrk h.p = false) ∧ (4 ≤ h.at_ → s.mrk h.c = false))
def lazyW (s : Bs) (h : Hd) (kd K : Int) : Option Nat := if h.at_ = 1 then (if s.key h.c < K ∨ kd = 3 then none else some h.p) else if h.at_ = 2 then some h.p else if h.at_ = 3 then some h.c else none
def lazyN (s : Bs) (h : Hd) (kd K : Int) : Nat := if h.at_ = 0 then 0 else if h.at_ = 1 then (if s.key h.c < K ∨ kd = 3 then 0 else 1) else 1
def lazyG (s : Bs) (lk : Nat → Bool) : Prop := ∀ i, i < s.sz → Rn s.nx s.tl 0 i → s.mrk i = true → lk i = true
def lazyH (s : Bs) (h : Hd) : Prop := (h.at_ = 3 ∨ h.at_ = 4 → Rn s.nx s.tl 0 h.p → s.mrk h.p = false) ∧ (h.at_ = 4 → Rn s.nx s.tl 0 h.c → s.mrk h.c = false)
def tLazy : AlgT := ⟨lazyP, fun _ h => h.at_ - 2, lazyV, lazyW, lazyN, fun _ c => c = 0, fun h => if h.at_ = 5 then 1 else 0, lazyG, lazyH, 14, 15, 3, 4⟩
theorem lazyW_iff {s : Bs} {h : Hd} {kd K : Int} {j : Nat} : lazyW s h kd K = some j ↔ ((((h.at_ = 1 ∧ ¬ s.key h.c < K ∧ kd ≠ 3) ∨ h.at_ = 2) ∧ j = h.p) ∨ (h.at_ = 3 ∧ j = h.c)) := by
  unfold lazyW
  by_cases h1 : h.at_ = 1
  · rw [if_pos h1]
    by_cases c1 : s.key h.c < K ∨ kd = 3
    · rw [if_pos c1]
      refine ⟨fun h => (by cases h), fun hh => ?_⟩
      rcases hh with ⟨⟨_, a, b⟩ | a, _⟩ | ⟨a, _⟩
      · exact absurd c1 (fun c => c.elim a b)
      · omega
      · omega
    · rw [if_neg c1]
      have c2 : ¬ s.key h.c < K ∧ kd ≠ 3 := ⟨fun a => c1 (.inl a), fun a => c1 (.inr a)⟩
      refine ⟨fun hh => by cases hh; exact .inl ⟨.inl ⟨h1, c2⟩, rfl⟩, fun hh => ?_⟩
      rcases hh with ⟨_, a⟩ | ⟨a, _⟩
      · rw [a]
      · omega
  · rw [if_neg h1]
    by_cases h2 : h.at_ = 2
    · rw [if_pos h2]
      refine ⟨fun hh => by cases hh; exact .inl ⟨.inr h2, rfl⟩, fun hh => ?_⟩
      rcases hh with ⟨_, a⟩ | ⟨a, _⟩
      · rw [a]
      · omega
    · rw [if_neg h2]
      by_cases h3 : h.at_ = 3
      · rw [if_pos h3]
        refine ⟨fun hh => by cases hh; exact .inr ⟨h3, rfl⟩, fun hh => ?_⟩
        rcases hh with ⟨a | a, _⟩ | ⟨_, a⟩
        · omega
        · omega
        · rw [a]
      · rw [if_neg h3]
        refine ⟨fun hh => (by cases hh), fun hh => ?_⟩
        rcases hh with ⟨a | a, _⟩ | ⟨a, _⟩ <;> omega
theorem lazyN_le (s : Bs) (h : Hd) (kd K : Int) : lazyN s h kd K ≤ 1 := by
  unfold lazyN
  repeat' split
  all_goals omega
theorem lazyP_at {s : Bs} {h : Hd} (h2 : 2 ≤ h.at_) : lazyP s h = 9 + h.at_ := by unfold lazyP; rw [if_neg (by omega), if_neg (by omega)]
theorem lazyP_low {s : Bs} {h : Hd} (h2 : h.at_ ≤ 1) : lazyP s h ≤ 11 := by
  unfold lazyP
  split
  · omega
  · rw [if_pos (by omega)]; omega
theorem fre_own {lk : Nat → Bool} {h : Hd} {i : Nat} (hi : fre lk h i = true) : lk i = true ∧ i ≠ h.p ∧ i ≠ h.c := by
  unfold fre at hi
  have h1 : i ≠ h.c := fun e => by rw [e, upd_same] at hi; cases hi
  rw [upd_other _ _ h1] at hi
  have h2 : i ≠ h.p := fun e => by rw [e, upd_same] at hi; cases hi
  rw [upd_other _ _ h2] at hi
  exact ⟨hi, h2, h1⟩
theorem fre_keep {lk : Nat → Bool} {h : Hd} {i : Nat} (hp : i ≠ h.p) (hc : i ≠ h.c) : fre lk h i = lk i := by
  unfold fre
  rw [upd_other _ _ hc, upd_other _ _ hp]
theorem lazyO_pc {h : Hd} {i : Nat} (ho : lazyO h i) : (3 ≤ h.at_ ∧ i = h.p) ∨ (4 ≤ h.at_ ∧ i = h.c) := by
  rcases ho with ⟨a, b⟩ | ⟨a, b | b⟩
  · exact .inl ⟨by omega, b⟩
  · exact .inl ⟨by omega, b⟩
  · exact .inr ⟨by omega, b⟩
theorem lazyO_low {h : Hd} (hl : h.at_ ≤ 2) (i : Nat) : ¬ lazyO h i := fun ho => by rcases lazyO_pc ho with ⟨a, _⟩ | ⟨a, _⟩ <;> omega

theorem tLazy_ok : AlgTOk aLazy tLazy where
  kb := fun {s lk h kd K g} hc hm hd hk => by
    have hm : LI s h kd K g := hm
    show KB (lazyS s lk h kd K).s
    obtain ⟨r, hr⟩ : ∃ r, lazyS s lk h kd K = r := ⟨_, rfl⟩
    have hv : LzV s lk h kd K r := by rw [← hr]; exact lzV hm.le
    rw [hr]
    cases hv with
    | ins _ => exact kb_ins hk hd.1
    | _ => exact hk
  pg := fun {s s' h kd K g} hc hm hd hg => by
    have hm : LI s h kd K g := hm
    refine ⟨?_, rfl⟩
    show lazyP s' h = lazyP s h
    unfold lazyP
    by_cases h0 : h.at_ = 0
    · rw [if_pos h0, if_pos h0]
    · rw [hg.key _ (hm.pc h0).2.1]
  zero := fun s h kd h0 => ⟨.inr (.inl h0), by show lazyP s h = 0; unfold lazyP; rw [if_pos h0], by show h.at_ - 2 = 0; omega⟩
  pd0 := rfl
  top := fun {s h kd K g} hc hm hd hk => by
    have hm : LI s h kd K g := hm
    have hle := hm.le
    show lazyP s h + 1 ≤ 15 ∧ h.at_ - 2 ≤ 4
    refine ⟨?_, by omega⟩
    by_cases h2 : 2 ≤ h.at_
    · rw [lazyP_at h2]; omega
    · have := lazyP_low (s := s) (h := h) (by omega); omega
  wait := fun {s lk h kd K g j} hc hm hd hw hl => by
    have hm : LI s h kd K g := hm
    have hw : lazyW s h kd K = some j := hw
    rw [lazyW_iff] at hw
    show ((lazyS s lk h kd K).over = false ∧ (lazyS s lk h kd K).s = s ∧ (lazyS s lk h kd K).lk = lk) ∧ (∀ i, lazyO (lazyS s lk h kd K).h i ↔ lazyO h i) ∧ lazyP s h ≤ lazyP s (lazyS s lk h kd K).h ∧ h.at_ - 2 ≤ (lazyS s lk h kd K).h.at_ - 2 ∧ (lazyV s h kd → lazyV s (lazyS s lk h kd K).h kd)
    obtain ⟨r, hr⟩ : ∃ r, lazyS s lk h kd K = r := ⟨_, rfl⟩
    have hv : LzV s lk h kd K r := by rw [← hr]; exact lzV hm.le
    rw [hr]
    cases hv with
    | wtp hh _ =>
      have hat : h.at_ = 1 ∨ h.at_ = 2 := hh.imp (fun a => a.1) id
      refine ⟨⟨rfl, rfl, rfl⟩, fun i => ⟨fun a => absurd a (lazyO_low (by show 2 ≤ 2; omega) i), fun a => absurd a (lazyO_low (by omega) i)⟩, ?_, ?_, fun hv => ?_⟩
      · show lazyP s h ≤ lazyP s ⟨2, h.p, h.c, h.is_⟩
        rw [lazyP_at (h := ⟨2, h.p, h.c, h.is_⟩) (Nat.le_refl _)]
        show lazyP s h ≤ 9 + 2
        by_cases h2 : 2 ≤ h.at_
        · rw [lazyP_at h2]; omega
        · exact lazyP_low (by omega)
      · show h.at_ - 2 ≤ 2 - 2
        omega
      · rcases hv with a | a | a | ⟨a, b, _, _⟩
        · exact .inl a
        · omega
        · omega
        · exact .inr (.inr (.inr ⟨a, b, fun h => absurd h (by show ¬ 3 ≤ 2; omega), fun h => absurd h (by show ¬ 4 ≤ 2; omega)⟩))
    | wtc h3 _ =>
      have e : (⟨3, h.p, h.c, h.is_⟩ : Hd) = h := by rw [← h3]
      rw [e]
      exact ⟨⟨rfl, rfl, rfl⟩, fun _ => Iff.rfl, Nat.le_refl _, Nat.le_refl _, id⟩
    | lkp hh hf =>
      rcases hw with ⟨_, e⟩ | ⟨e, _⟩
      · rw [e, hf] at hl; cases hl
      · omega
    | lkc h3 hf =>
      rcases hw with ⟨e | e, _⟩ | ⟨_, e⟩
      · omega
      · omega
      · rw [e, hf] at hl; cases hl
    | walk h1 hk => 
      rcases hw with ⟨⟨_, e, _⟩ | e, _⟩ | ⟨e, _⟩
      · exact absurd hk e
      · omega
      · omega
    | has b h1 hk h3 =>
      rcases hw with ⟨⟨_, _, e⟩ | e, _⟩ | ⟨e, _⟩
      · exact absurd h3 e
      · omega
      · omega
    | s0 h0 => rcases hw with ⟨⟨e, _⟩ | e, _⟩ | ⟨e, _⟩ <;> omega
    | fail h0 _ => rcases hw with ⟨⟨e, _⟩ | e, _⟩ | ⟨e, _⟩ <;> omega
    | mark h0 _ _ => rcases hw with ⟨⟨e, _⟩ | e, _⟩ | ⟨e, _⟩ <;> omega
    | no b h0 => rcases hw with ⟨⟨e, _⟩ | e, _⟩ | ⟨e, _⟩ <;> omega
    | ins h0 => rcases hw with ⟨⟨e, _⟩ | e, _⟩ | ⟨e, _⟩ <;> omega
    | cut h0 => rcases hw with ⟨⟨e, _⟩ | e, _⟩ | ⟨e, _⟩ <;> omega
  hi0 := fun s => ⟨fun h => absurd h (by show ¬ (0 = 3 ∨ 0 = 4); omega), fun h => absurd h (by show ¬ 0 = 4; omega)⟩
  gstep := fun {s lk h kd K g} hc hm hd hG hH hown => by
    have hm : LI s h kd K g := hm
    have hc : Cor s := hc
    have hG : lazyG s lk := hG
    have hH : lazyH s h := hH
    have hown : ∀ i, lazyO h i → lk i = true := hown
    show lazyG (lazyS s lk h kd K).s (lazyS s lk h kd K).lk ∧ ((lazyS s lk h kd K).over = false → lazyH (lazyS s lk h kd K).s (lazyS s lk h kd K).h)
    have low : ∀ (s' : Bs) (h' : Hd), h'.at_ ≠ 3 → h'.at_ ≠ 4 → lazyH s' h' := fun s' h' h3 h4 => ⟨fun h => absurd h (by omega), fun h => absurd h h4⟩
    have up : ∀ j, lazyG s (upd lk j true) := fun j i hi hr hmk => by
      by_cases e : i = j
      · rw [e, upd_same]
      · rw [upd_other _ _ e]; exact hG i hi hr hmk
    have freG : h.at_ = 4 → lazyG s (fre lk h) := fun h4 i hi hr hmk => by
      have hp : i ≠ h.p := fun e => by rw [e] at hr hmk; rw [hH.1 (.inr h4) hr] at hmk; cases hmk
      have hc' : i ≠ h.c := fun e => by rw [e] at hr hmk; rw [hH.2 h4 hr] at hmk; cases hmk
      rw [fre_keep hp hc']
      exact hG i hi hr hmk
    obtain ⟨r, hr⟩ : ∃ r, lazyS s lk h kd K = r := ⟨_, rfl⟩
    have hv : LzV s lk h kd K r := by rw [← hr]; exact lzV hm.le
    have hback : ∀ i, i < s.sz → Rn r.s.nx r.s.tl 0 i → Rn s.nx s.tl 0 i := fun i hi => (lz_back hc hm hd hv hi).1
    rw [hr]
    have fm : ∀ j, j < s.sz → lk j = false → Rn s.nx s.tl 0 j → s.mrk j = false := fun j hj hf hr => by
      cases e : s.mrk j with
      | false => rfl
      | true => rw [hG j hj hr e] at hf; cases hf
    cases hv with
    | s0 _ => exact ⟨hG, fun _ => low _ _ (by show 1 ≠ 3; omega) (by show 1 ≠ 4; omega)⟩
    | walk _ _ => exact ⟨hG, fun _ => low _ _ (by show 1 ≠ 3; omega) (by show 1 ≠ 4; omega)⟩
    | has _ _ _ _ => exact ⟨hG, fun h => by cases h⟩
    | lkp hh hf =>
      have hp := (hm.pc (by rcases hh with ⟨a, _⟩ | a <;> omega)).1
      exact ⟨up _, fun _ => ⟨fun _ => fm _ hp hf, fun h => absurd h (by show ¬ 3 = 4; omega)⟩⟩
    | wtp _ _ => exact ⟨hG, fun _ => low _ _ (by show 2 ≠ 3; omega) (by show 2 ≠ 4; omega)⟩
    | lkc h3 hf =>
      have hcl := (hm.pc (by omega)).2.1
      exact ⟨up _, fun _ => ⟨fun _ => hH.1 (.inl h3), fun _ => fm _ hcl hf⟩⟩
    | wtc h3 _ => exact ⟨hG, fun _ => ⟨fun _ => hH.1 (.inl h3), fun h => absurd h (by show ¬ 3 = 4; omega)⟩⟩
    | fail h4 _ => exact ⟨freG h4, fun _ => low _ _ (by show 0 ≠ 3; omega) (by show 0 ≠ 4; omega)⟩
    | mark h4 _ _ =>
      refine ⟨fun i hi hr hmk => ?_, fun _ => low _ _ (by show 5 ≠ 3; omega) (by show 5 ≠ 4; omega)⟩
      show lk i = true
      by_cases e : i = h.c
      · exact hown i (.inr ⟨.inl h4, .inr e⟩)
      · have hmk : upd s.mrk h.c true i = true := hmk
        rw [upd_other _ _ e] at hmk
        exact hG i hi hr hmk
    | no _ h4 => exact ⟨freG h4, fun h => by cases h⟩
    | ins h4 =>
      refine ⟨fun i hi hr hmk => ?_, fun h => by cases h⟩
      have hi : i < s.sz + 1 := hi
      have hmk : upd s.mrk s.sz false i = true := hmk
      have hne : i ≠ s.sz := fun e => by rw [e, upd_same] at hmk; cases hmk
      rw [upd_other _ _ hne] at hmk
      exact freG h4 i (by omega) (hback i (by omega) hr) hmk
    | cut h5 =>
      refine ⟨fun i hi hr hmk => ?_, fun h => by cases h⟩
      obtain ⟨hp, hcl, hpK⟩ := hm.pc (by omega)
      obtain ⟨_, _, mc, mp, hn, _⟩ := hm.five h5
      have hct : h.c ≠ s.tl := fun e => by have := hc.mt; rw [← e, mc] at this; cases this
      have hpt := key_tl hc hd.1 (.inl hpK)
      have hmk : s.mrk i = true := hmk
      have hc0 : 0 ≠ h.c := fun e => by have := hc.m0; rw [e, mc] at this; cases this
      have e1 : i ≠ h.c := cut_gone hc hp hpt mp hn hct hr hc.pos .refl hc0
      have e2 : i ≠ h.p := fun e => by rw [e, mp] at hmk; cases hmk
      show fre lk h i = true
      rw [fre_keep e2 e1]
      exact hG i hi (hback i hi hr) hmk
  goth := fun {s lk h kd K g h'} hc hm hd hap hlt hH => by
    have hm : LI s h kd K g := hm
    have hc : Cor s := hc
    have hH : lazyH s h' := hH
    show lazyH (lazyS s lk h kd K).s h'
    have hb : ∀ i, lazyO h' i → (Rn s.nx s.tl 0 i → s.mrk i = false) → Rn (lazyS s lk h kd K).s.nx (lazyS s lk h kd K).s.tl 0 i → (lazyS s lk h kd K).s.mrk i = false := fun i ho hf hr => by
      have := lz_back hc hm hd (lzV (lk := lk) hm.le) (hlt i ho)
      rw [this.2 (hap i ho)]
      exact hf (this.1 hr)
    refine ⟨fun h => hb _ ?_ (hH.1 h), fun h => hb _ (.inr ⟨.inl h, .inr rfl⟩) (hH.2 h)⟩
    rcases h with h | h
    · exact .inl ⟨h, rfl⟩
    · exact .inr ⟨.inl h, .inl rfl⟩
  go := fun {s lk h kd K g} hc hm hd hk hG hH hf => by
    have hm : LI s h kd K g := hm
    have hc : Cor s := hc
    have hG : lazyG s lk := hG
    have hf : ∀ j, lazyW s h kd K = some j → lk j = false := hf
    have hN := lazyN_le s h kd K
    show ((lazyS s lk h kd K).over = true ∧ (h.at_ - 2) + lazyN s h kd K ≤ 4) ∨ ((lazyS s lk h kd K).over = false ∧ (lazyS s lk h kd K).h.at_ = 0 ∧ (lazyS s lk h kd K).s = s ∧ ¬ lazyV s h kd ∧ lazyP s h + 1 ≤ 14 ∧ (h.at_ - 2) + lazyN s h kd K ≤ 3) ∨
      ((lazyS s lk h kd K).over = false ∧ lazyP s h + 1 ≤ lazyP (lazyS s lk h kd K).s (lazyS s lk h kd K).h ∧ (h.at_ - 2) + lazyN s h kd K ≤ (lazyS s lk h kd K).h.at_ - 2 ∧ ((lazyS s lk h kd K).s = s → lazyV s h kd → lazyV s (lazyS s lk h kd K).h kd))
    have fm : ∀ j, j < s.sz → lk j = false → Rn s.nx s.tl 0 j → s.mrk j = false := fun j hj hf hr => by
      cases e : s.mrk j with
      | false => rfl
      | true => rw [hG j hj hr e] at hf; cases hf
    obtain ⟨r, hr⟩ : ∃ r, lazyS s lk h kd K = r := ⟨_, rfl⟩
    have hv : LzV s lk h kd K r := by rw [← hr]; exact lzV hm.le
    rw [hr]
    cases hv with
    | s0 h0 =>
      right; right
      have e1 : lazyP s h = 0 := by unfold lazyP; rw [if_pos h0]
      have e2 : lazyN s h kd K = 0 := by unfold lazyN; rw [if_pos h0]
      refine ⟨rfl, ?_, ?_, fun _ _ => .inr (.inr (.inr ⟨.refl, rfl, fun h => absurd h (by show ¬ 3 ≤ 1; omega), fun h => absurd h (by show ¬ 4 ≤ 1; omega)⟩))⟩
      · rw [e1]
        show 0 + 1 ≤ 1 + min (s.key (s.nx 0) + 1).toNat 10
        omega
      · rw [e2, h0]
        show 0 ≤ 1 - 2
        omega
    | walk h1 hkc =>
      right; right
      obtain ⟨hp, hcl, hpK⟩ := hm.pc (by omega)
      have e1 : lazyP s h = 1 + min (s.key h.c + 1).toNat 10 := by unfold lazyP; rw [if_neg (by omega), if_pos h1]
      have e2 : lazyN s h kd K = 0 := by unfold lazyN; rw [if_neg (by omega), if_pos h1, if_pos (.inl hkc)]
      have hup := hc.up h.c hcl (key_tl hc hd.1 (.inl hkc))
      have hkb := hk h.c hcl
      have hK := hd.1
      refine ⟨rfl, ?_, ?_, fun _ hv => ?_⟩
      · rw [e1]
        show 1 + min (s.key h.c + 1).toNat 10 + 1 ≤ 1 + min (s.key (s.nx h.c) + 1).toNat 10
        omega
      · rw [e2, h1]
        show 1 - 2 + 0 ≤ 1 - 2
        omega
      · rcases hv with a | a | a | ⟨a, b, _, _⟩
        · exact .inl a
        · omega
        · omega
        · refine .inr (.inr (.inr ⟨?_, rfl, fun h => absurd h (by show ¬ 3 ≤ 1; omega), fun h => absurd h (by show ¬ 4 ≤ 1; omega)⟩))
          show Rn s.nx s.tl 0 h.c
          rw [← b]
          exact a.snoc (key_tl hc hd.1 (.inl hpK))
    | has _ h1 _ _ => exact .inl ⟨rfl, by omega⟩
    | lkp hh hl =>
      right; right
      have hat : h.at_ = 1 ∨ h.at_ = 2 := hh.imp (fun a => a.1) id
      obtain ⟨hp, _, _⟩ := hm.pc (by omega)
      refine ⟨rfl, ?_, ?_, fun _ hv => ?_⟩
      · rw [show lazyP s ⟨3, h.p, h.c, h.is_⟩ = 12 from rfl]
        by_cases h2 : 2 ≤ h.at_
        · rw [lazyP_at h2]; omega
        · have := lazyP_low (s := s) (h := h) (by omega); omega
      · show h.at_ - 2 + lazyN s h kd K ≤ 3 - 2
        omega
      · rcases hv with a | a | a | ⟨a, b, _, _⟩
        · exact .inl a
        · omega
        · omega
        · exact .inr (.inr (.inr ⟨a, b, fun _ => fm _ hp hl a, fun h => absurd h (by show ¬ 4 ≤ 3; omega)⟩))
    | wtp hh hl =>
      have := hf h.p (lazyW_iff.mpr (.inl ⟨hh, rfl⟩))
      rw [hl] at this
      cases this
    | lkc h3 hl =>
      right; right
      obtain ⟨_, hcl, hpK⟩ := hm.pc (by omega)
      refine ⟨rfl, ?_, ?_, fun _ hv => ?_⟩
      · rw [show lazyP s ⟨4, h.p, h.c, h.is_⟩ = 13 from rfl, lazyP_at (by omega)]; omega
      · show h.at_ - 2 + lazyN s h kd K ≤ 4 - 2
        omega
      · rcases hv with a | a | a | ⟨a, b, d, _⟩
        · exact .inl a
        · omega
        · omega
        · refine .inr (.inr (.inr ⟨a, b, fun _ => d (by omega), fun _ => fm _ hcl hl ?_⟩))
          rw [← b]
          exact a.snoc (key_tl hc hd.1 (.inl hpK))
    | wtc h3 hl =>
      have := hf h.c (lazyW_iff.mpr (.inr ⟨h3, rfl⟩))
      rw [hl] at this
      cases this
    | fail h4 hbad =>
      right; left
      have h3 := (hm.two (by omega)).2
      refine ⟨rfl, rfl, rfl, fun hv => ?_, by rw [lazyP_at (by omega)]; omega, by omega⟩
      rcases hv with a | a | a | ⟨_, b, d, e⟩
      · exact h3 a
      · omega
      · omega
      · rcases hbad with x | x | x
        · rw [d (by omega)] at x; cases x
        · rw [e (by omega)] at x; cases x
        · exact x b
    | mark h4 _ _ =>
      right; right
      refine ⟨rfl, ?_, ?_, fun _ _ => .inr (.inr (.inl rfl))⟩
      · rw [show lazyP (s.mark h.c) ⟨5, h.p, h.c, true⟩ = 14 from rfl, lazyP_at (by omega)]; omega
      · show h.at_ - 2 + lazyN s h kd K ≤ 5 - 2
        omega
    | no _ h4 => exact .inl ⟨rfl, by omega⟩
    | ins h4 => exact .inl ⟨rfl, by omega⟩
    | cut h5 => exact .inl ⟨rfl, by omega⟩
  chg := fun {s lk h kd K g c} hc hm hd hch => by
    have hm : LI s h kd K g := hm
    have hch : c = 0 := hch
    show ∃ c' x, c' = 0 ∧ x ≤ 1 ∧ (x = 0 → (lazyS s lk h kd K).s = s) ∧ x + c' + (if h.at_ = 5 then 1 else 0) ≤ c + (if (lazyS s lk h kd K).over = true then 2 else if (lazyS s lk h kd K).h.at_ = 5 then 1 else 0)
    obtain ⟨r, hr⟩ : ∃ r, lazyS s lk h kd K = r := ⟨_, rfl⟩
    have hv : LzV s lk h kd K r := by rw [← hr]; exact lzV hm.le
    rw [hr]
    have same : h.at_ ≠ 5 → r.s = s → ∃ c' x, c' = 0 ∧ x ≤ 1 ∧ (x = 0 → r.s = s) ∧ x + c' + (if h.at_ = 5 then 1 else 0) ≤ c + (if r.over = true then 2 else if r.h.at_ = 5 then 1 else 0) := fun h5 hs =>
      ⟨0, 0, rfl, by omega, fun _ => hs, by rw [if_neg h5]; omega⟩
    cases hv with
    | s0 h0 => exact same (by omega) rfl
    | walk h1 _ => exact same (by omega) rfl
    | has _ h1 _ _ => exact same (by omega) rfl
    | lkp hh _ => exact same (by rcases hh with ⟨a, _⟩ | a <;> omega) rfl
    | wtp hh _ => exact same (by rcases hh with ⟨a, _⟩ | a <;> omega) rfl
    | lkc h3 _ => exact same (by omega) rfl
    | wtc h3 _ => exact same (by omega) rfl
    | fail h4 _ => exact same (by omega) rfl
    | mark h4 _ _ => exact ⟨0, 1, rfl, Nat.le_refl _, fun h => (by cases h), by rw [if_neg (by omega), if_neg (by simp), if_pos rfl]; omega⟩
    | no _ h4 => exact same (by omega) rfl
    | ins h4 => exact ⟨0, 1, rfl, Nat.le_refl _, fun h => (by cases h), by rw [if_neg (by omega), if_pos rfl]; omega⟩
    | cut h5 => exact ⟨0, 1, rfl, Nat.le_refl _, fun h => (by cases h), by rw [if_pos h5, if_pos rfl]; omega⟩
  keep := fun {s lk h kd K g} hc hm hd hf h0 => by
    have hm : LI s h kd K g := hm
    have h0 : lazyN s h kd K = 0 := h0
    show (lazyS s lk h kd K).lk = lk ∧ ∀ i, lazyO (lazyS s lk h kd K).nh i ↔ lazyO h i
    have hat : h.at_ ≤ 1 := Classical.byContradiction fun hn => by
      unfold lazyN at h0
      rw [if_neg (by omega), if_neg (by omega)] at h0
      cases h0
    obtain ⟨r, hr⟩ : ∃ r, lazyS s lk h kd K = r := ⟨_, rfl⟩
    have hv : LzV s lk h kd K r := by rw [← hr]; exact lzV hm.le
    rw [hr]
    have fin : r.lk = lk → r.nh.at_ ≤ 2 → r.lk = lk ∧ ∀ i, lazyO r.nh i ↔ lazyO h i := fun e1 e2 => ⟨e1, fun i => ⟨fun a => absurd a (lazyO_low e2 i), fun a => absurd a (lazyO_low (by omega) i)⟩⟩
    cases hv with
    | s0 _ => exact fin rfl (by show 1 ≤ 2; omega)
    | walk _ _ => exact fin rfl (by show 1 ≤ 2; omega)
    | has _ _ _ _ => exact fin rfl (by show 0 ≤ 2; omega)
    | lkp hh _ =>
      rcases hh with ⟨a, b, d⟩ | a
      · unfold lazyN at h0
        rw [if_neg (by omega), if_pos a, if_neg (fun e => e.elim b d)] at h0
        cases h0
      · omega
    | wtp hh _ =>
      exact fin rfl (by show 2 ≤ 2; omega)
    | lkc h3 _ => omega
    | wtc h3 _ => omega
    | fail h4 _ => omega
    | mark h4 _ _ => omega
    | no _ h4 => omega
    | ins h4 => omega
    | cut h5 => omega
  wup := fun {s h kd K g i j} hc hm hd ho hw => by
    have hm : LI s h kd K g := hm
    have hw : lazyW s h kd K = some j := hw
    rw [lazyW_iff] at hw
    have ho : lazyO h i := ho
    rcases hw with ⟨⟨a, _⟩ | a, _⟩ | ⟨a, e⟩
    · exact absurd ho (lazyO_low (by omega) i)
    · exact absurd ho (lazyO_low (by omega) i)
    · rcases lazyO_pc ho with ⟨_, b⟩ | ⟨b, _⟩
      · rw [b, e]
        have h1 := (hm.pc (by omega)).2.2
        have h2 := (hm.two (by omega)).1
        omega
      · omega
  wlt := fun {s h kd K g j} hc hm hd hw => by
    have hm : LI s h kd K g := hm
    have hw : lazyW s h kd K = some j := hw
    rw [lazyW_iff] at hw
    rcases hw with ⟨a, e⟩ | ⟨a, e⟩
    · rw [e]
      exact (hm.pc (by rcases a with ⟨a, _⟩ | a <;> omega)).1
    · rw [e]
      exact (hm.pc (by omega)).2.1
  olt := fun {s h kd K g i} hc hm hd ho => by
    have hm : LI s h kd K g := hm
    rcases lazyO_pc (show lazyO h i from ho) with ⟨a, e⟩ | ⟨a, e⟩
    · rw [e]; exact (hm.pc (by omega)).1
    · rw [e]; exact (hm.pc (by omega)).2.1
  pd1 := fun h => by show (if h.at_ = 5 then 1 else 0) ≤ 1; split <;> omega
  own0 := fun {s h kd K g i} hc hm hd ho => by
    show lazyN s h kd K ≠ 0
    have : 3 ≤ h.at_ := by rcases lazyO_pc (show lazyO h i from ho) with ⟨a, _⟩ | ⟨a, _⟩ <;> omega
    unfold lazyN
    rw [if_neg (by omega), if_neg (by omega)]
    omega
  lk3 := fun {s lk h kd K g} hc hm hd i hi => by
    have hm : LI s h kd K g := hm
    have hi : (lazyS s lk h kd K).lk i = true := hi
    show lazyO (lazyS s lk h kd K).nh i ∨ (lk i = true ∧ ¬ lazyO h i)
    obtain ⟨r, hr⟩ : ∃ r, lazyS s lk h kd K = r := ⟨_, rfl⟩
    have hv : LzV s lk h kd K r := by rw [← hr]; exact lzV hm.le
    rw [hr] at hi ⊢
    have freed : fre lk h i = true → lk i = true ∧ ¬ lazyO h i := fun hf => by
      obtain ⟨a, b, d⟩ := fre_own hf
      refine ⟨a, fun ho => ?_⟩
      rcases lazyO_pc ho with ⟨_, e⟩ | ⟨_, e⟩
      · exact b e
      · exact d e
    cases hv with
    | s0 h0 => exact .inr ⟨hi, lazyO_low (by omega) i⟩
    | walk h1 _ => exact .inr ⟨hi, lazyO_low (by omega) i⟩
    | has _ h1 _ _ => exact .inr ⟨hi, lazyO_low (by omega) i⟩
    | lkp hh _ =>
      have hi : upd lk h.p true i = true := hi
      by_cases e : i = h.p
      · exact .inl (.inl ⟨rfl, e⟩)
      · rw [upd_other _ _ e] at hi
        exact .inr ⟨hi, lazyO_low (by rcases hh with ⟨a, _⟩ | a <;> omega) i⟩
    | wtp hh _ => exact .inr ⟨hi, lazyO_low (by rcases hh with ⟨a, _⟩ | a <;> omega) i⟩
    | lkc h3 _ =>
      have hi : upd lk h.c true i = true := hi
      by_cases e : i = h.c
      · exact .inl (.inr ⟨.inl rfl, .inr e⟩)
      · rw [upd_other _ _ e] at hi
        by_cases e2 : i = h.p
        · exact .inl (.inr ⟨.inl rfl, .inl e2⟩)
        · exact .inr ⟨hi, fun ho => by rcases lazyO_pc ho with ⟨_, a⟩ | ⟨a, _⟩ <;> first | exact e2 a | omega⟩
    | wtc h3 _ =>
      by_cases e2 : i = h.p
      · exact .inl (.inl ⟨rfl, e2⟩)
      · exact .inr ⟨hi, fun ho => by rcases lazyO_pc ho with ⟨_, a⟩ | ⟨a, _⟩ <;> first | exact e2 a | omega⟩
    | fail h4 _ => exact .inr (freed hi)
    | mark h4 _ _ =>
      by_cases ho : lazyO h i
      · rcases lazyO_pc ho with ⟨_, a⟩ | ⟨_, a⟩
        · exact .inl (.inr ⟨.inr rfl, .inl a⟩)
        · exact .inl (.inr ⟨.inr rfl, .inr a⟩)
      · exact .inr ⟨hi, ho⟩
    | no _ h4 => exact .inr (freed hi)
    | ins h4 => exact .inr (freed hi)
    | cut h5 => exact .inr (freed hi)

end Go.Proofs.Ytfmdpmebllepeaa

/-
  FROM THE BEGIN TO THE END: every deed is over, and there is an order: plain mathematics. Nothing of the program.
-/
namespace Go.Proofs.Ytfmdpmebllepeaa

def st0 (l : List Int) : Bs := ⟨fun i => if i = 0 then -1 else (l[i - 1]?).getD 10, fun i => i + 1, fun _ => false, l.length + 2, l.length + 1⟩
def Ris (l : List Int) : Prop := l.Pairwise (· < ·) ∧ ∀ x, x ∈ l → 0 ≤ x ∧ x ≤ 9
theorem st0_key (l : List Int) (i : Nat) (hi : i < l.length) : (st0 l).key (i + 1) = l[i] := by
  show (if i + 1 = 0 then -1 else (l[i + 1 - 1]?).getD 10) = l[i]
  rw [if_neg (by omega), Nat.add_sub_cancel, List.getElem?_eq_getElem hi]
  rfl
theorem st0_top (l : List Int) : (st0 l).key (l.length + 1) = 10 := by
  show (if l.length + 1 = 0 then -1 else (l[l.length + 1 - 1]?).getD 10) = 10
  rw [if_neg (by omega), Nat.add_sub_cancel, List.getElem?_eq_none (Nat.le_refl _)]
  rfl
theorem st0_cor {l : List Int} (h : Ris l) : Cor (st0 l) := by
  refine ⟨by show l.length + 1 < l.length + 2; omega, by show l.length + 1 ≠ 0; omega, rfl, st0_top l, rfl, rfl, fun i hi hn => ?_, fun i hi hn => ?_, fun i hi _ => ?_⟩
  · have hi : i < l.length + 2 := hi
    have hn : i ≠ l.length + 1 := hn
    show i + 1 < l.length + 2
    omega
  · have hi : i < l.length + 2 := hi
    have hn : i ≠ l.length + 1 := hn
    show (st0 l).key i < (st0 l).key (i + 1)
    have hup : (st0 l).key (i + 1) = 10 ∨ ∃ h : i < l.length, (st0 l).key (i + 1) = l[i] := by
      by_cases e : i < l.length
      · exact .inr ⟨e, st0_key l i e⟩
      · have : i = l.length := by omega
        rw [this]
        exact .inl (st0_top l)
    cases i with
    | zero =>
      have e0 : (st0 l).key 0 = -1 := rfl
      rcases hup with e | ⟨hl, e⟩
      · omega
      · have := h.2 _ (List.getElem_mem hl)
        omega
    | succ i =>
      have hl : i < l.length := by omega
      rw [st0_key l i hl]
      have h1 := h.2 _ (List.getElem_mem hl)
      rcases hup with e | ⟨hl2, e⟩
      · omega
      · rw [e]
        exact List.pairwise_iff_getElem.mp h.1 i (i + 1) hl hl2 (by omega)
  · have hi : i < l.length + 2 := hi
    have all : ∀ k, k < l.length + 2 → Rn (st0 l).nx (st0 l).tl 0 k := by
      intro k
      induction k with
      | zero => intro _; exact .refl
      | succ k ih => intro hk; exact (ih (by omega)).snoc (by show k ≠ l.length + 1; omega)
    exact all i hi
theorem st0_kb {l : List Int} (h : Ris l) : KB (st0 l) := fun i hi => by
  have hi : i < l.length + 2 := hi
  cases i with
  | zero => show -1 ≤ (-1 : Int) ∧ (-1 : Int) ≤ 10; omega
  | succ i =>
    by_cases e : i < l.length
    · rw [st0_key l i e]
      have := h.2 _ (List.getElem_mem e)
      omega
    · have : i = l.length := by omega
      rw [this, st0_top]
      omega
theorem st0_pn (l : List Int) : Pn (st0 l).nx (st0 l).tl 0 (l.length + 1) := by
  have : ∀ k, k ≤ l.length + 1 → Pn (st0 l).nx (st0 l).tl (l.length + 1 - k) k := by
    intro k
    induction k with
    | zero => intro _; exact .last
    | succ k ih =>
      intro hk
      refine .step (by show l.length + 1 - (k + 1) ≠ l.length + 1; omega) ?_
      have e : (st0 l).nx (l.length + 1 - (k + 1)) = l.length + 1 - k := by show l.length + 1 - (k + 1) + 1 = _; omega
      rw [e]
      exact ih (by omega)
  have := this (l.length + 1) (Nat.le_refl _)
  rw [Nat.sub_self] at this
  exact this
theorem ris_len {l : List Int} (h : Ris l) : l.length ≤ 10 := by
  have : ∀ (i : Nat) (hi : i < l.length), (i : Int) ≤ l[i] := by
    intro i
    induction i with
    | zero => intro hi; exact (h.2 _ (List.getElem_mem hi)).1
    | succ i ih =>
      intro hi
      have h1 := ih (by omega)
      have h2 := List.pairwise_iff_getElem.mp h.1 i (i + 1) (by omega) hi (by omega)
      omega
  apply Classical.byContradiction
  intro hn
  have h1 := this 10 (by omega)
  have h2 := (h.2 _ (List.getElem_mem (show 10 < l.length by omega))).2
  omega

def Wd.begin_ (l : List Int) : Wd := ⟨st0 l, fun _ => false, fun _ => hd0, fun _ => 0, fun _ => none, 0, fun _ _ => none⟩
def gh0 (c : Nat) : Gh := ⟨fun _ => 0, fun _ => 0, fun _ => 0, fun _ => 0, 0, c⟩
section
variable {A : Alg} {T : AlgT} {D : Nat → Nat → Int × Int} {len : Nat → Nat} {nh c0 : Nat}
theorem begin_HI (hA : AlgOk A) (D : Nat → Nat → Int × Int) {l : List Int} (hc : A.cor (st0 l)) : HI A D (fun _ => (st0 l).has) (fun _ => none) (Wd.begin_ l) where
  cor := hc
  top := fun _ => Iff.rfl
  inv := fun w => hA.start _ _ _ _
  lk1 := fun w i h => absurd h (hA.nown i)
  lk2 := fun w w' i h _ => absurd h (hA.nown i)
  non := fun _ _ => rfl
  bgn := fun w b h => by cases h
  chg := fun t h => by exact absurd h (Nat.not_lt_zero _)
  mvt := fun t w j h => by cases h
  one := fun t t' w j h => by cases h
  pen := fun w h => absurd h hA.npend
  fin := fun w j h => absurd h (Nat.not_lt_zero _)
theorem begin_TI (hA : AlgOk A) (hT : AlgTOk A T) (D : Nat → Nat → Int × Int) {l : List Int} (h : Ris l) (hch : T.chn (st0 l) c0) (hg : T.gl (st0 l) (fun _ => false)) : TI A T D len nh c0 (Wd.begin_ l) (gh0 c0) where
  kb := st0_kb h
  gl := hg
  hi := fun _ => hT.hi0 _
  chn := hch
  pot := by show 0 + c0 ≤ c0 + _; omega
  ra := fun _ => Nat.le_refl _
  ac := fun _ => Nat.le_refl _
  val := fun w _ => (hT.zero _ _ _ rfl).1
  n := fun w => Nat.zero_le _
  l := fun w => Nat.zero_le _
  lk3 := fun i h => by cases h
  ixl := fun w => Nat.zero_le _
  idl := fun _ _ => rfl
theorem runs_keep (hA : AlgOk A) (hT : AlgTOk A T) (hD : Dees D len) : ∀ (ws : List Nat), (∀ w, w ∈ ws → w < nh) → ∀ (S : Nat → Int → Prop) (mv : Nat → Option (Nat × Nat)) (W : Wd) (G : Gh), HI A D S mv W → TI A T D len nh c0 W G →
    ∃ S' mv' G', HI A D S' mv' (W.runs A D len ws) ∧ TI A T D len nh c0 (W.runs A D len ws) G' ∧ (∀ t, t ≤ W.now → S' t = S t) ∧ W.now ≤ (W.runs A D len ws).now ∧ (W.runs A D len ws).now ≤ W.now + ws.length := by
  intro ws
  induction ws with
  | nil => intro _ S mv W G h t; exact ⟨S, mv, G, h, t, fun _ _ => rfl, Nat.le_refl _, Nat.le_refl _⟩
  | cons a ws ih =>
    intro hlt S mv W G h t
    have hlt' : ∀ w, w ∈ ws → w < nh := fun w hw => hlt w (List.mem_cons_of_mem _ hw)
    show ∃ S' mv' G', HI A D S' mv' ((W.go1 A D len a).runs A D len ws) ∧ TI A T D len nh c0 ((W.go1 A D len a).runs A D len ws) G' ∧ (∀ t, t ≤ W.now → S' t = S t) ∧ W.now ≤ ((W.go1 A D len a).runs A D len ws).now ∧ ((W.go1 A D len a).runs A D len ws).now ≤ W.now + (ws.length + 1)
    by_cases hl : W.ix a < len a
    · have e1 : W.go1 A D len a = W.go A D a := by unfold Wd.go1; rw [if_pos hl]
      rw [e1]
      obtain ⟨S1, mv1, h1, hS1, _⟩ := h.step hA a (hD a _ hl)
      obtain ⟨G1, t1, _⟩ := t.step hA hT h (hlt a (List.mem_cons_self ..)) hl hD
      obtain ⟨S2, mv2, G2, h2, t2, hS2, n1, n2⟩ := ih hlt' S1 mv1 _ G1 h1 t1
      have hn1 : (W.go A D a).now = W.now + 1 := rfl
      exact ⟨S2, mv2, G2, h2, t2, fun t ht => (hS2 t (by omega)).trans (hS1 t ht), by omega, by omega⟩
    · have e1 : W.go1 A D len a = W := by unfold Wd.go1; rw [if_neg hl]
      rw [e1]
      obtain ⟨S2, mv2, G2, h2, t2, hS2, n1, n2⟩ := ih hlt' S mv W G h t
      exact ⟨S2, mv2, G2, h2, t2, hS2, n1, by omega⟩
theorem hands_end (hA : AlgOk A) (hT : AlgTOk A T) (hD : Dees D len) (hnh : nh ≤ 4) (hl4 : ∀ w, len w ≤ 4) (hlen : ∀ w, nh ≤ w → len w = 0) (hB : (T.nr * (c0 + 32) + T.nd * 4) + 3 * (T.lr * (c0 + 32) + T.ld * 4) ≤ 875) {l : List Int} (hl : Ris l) (hc : A.cor (st0 l)) (hch : T.chn (st0 l) c0) (hg : T.gl (st0 l) (fun _ => false))
    {ord : List Nat} (ho : ∀ w, w ∈ ord → w < nh) (ho5 : ord.length ≤ 500) {W : Wd} (hW : W = ((Wd.begin_ l).runs A D len ord).rounds A D len nh 875) :
    (∀ k, k ≤ 875 → (((Wd.begin_ l).runs A D len ord).rounds A D len nh k).now ≤ 500 + 4 * k) ∧ (∀ w, W.ix w = len w ∧ W.hs w = hd0) ∧ A.cor W.s ∧ (∀ w j, j < len w → ∃ b e is_, W.tol w j = some (b, e, is_) ∧ b ≤ e) ∧
      ∀ has left, kset (st0 l).has has → kset W.s.has left → ordB D (Tdl W nh len).length has (Tdl W nh len) left = true := by
  obtain ⟨S1, mv1, G1, h1, t1, hS1, _, n1⟩ := runs_keep hA hT hD ord ho _ _ _ _ (begin_HI hA D hc) (begin_TI hA hT D (len := len) (nh := nh) hl hch hg)
  have n1' : ((Wd.begin_ l).runs A D len ord).now ≤ 500 := by have : (Wd.begin_ l).now = 0 := rfl; omega
  obtain ⟨hnows, S2, mv2, G2, h2, t2, hS2, hdone⟩ := all_over hA hT hD hnh hl4 hlen hB h1 t1 n1'
  rw [← hW] at h2 t2 hdone
  refine ⟨hnows, hdone, h2.cor, fun w j hj => ?_, fun has left hh hle => ?_⟩
  · obtain ⟨b, e, i, x1, x2, _⟩ := h2.fin w j (by rw [(hdone w).1]; exact hj)
    exact ⟨b, e, i, x1, x2⟩
  · refine h2.order hA hlen (fun w => (hdone w).1) (fun w => (hdone w).2) hD ?_ hle
    rw [hS2 0 (Nat.zero_le _), hS1 0 (Nat.zero_le _)]
    exact hh
end
theorem lazy_begin {l : List Int} (hl : Ris l) : aLazy.cor (st0 l) ∧ tLazy.chn (st0 l) 0 ∧ tLazy.gl (st0 l) (fun _ => false) ∧ (tLazy.nr * (0 + 32) + tLazy.nd * 4) + 3 * (tLazy.lr * (0 + 32) + tLazy.ld * 4) ≤ 875 :=
  ⟨st0_cor hl, rfl, (fun i _ _ h => by cases h), by decide⟩
theorem over_begin {l : List Int} (hl : Ris l) : aOver.cor (st0 l) ∧ tOver.chn (st0 l) 0 ∧ tOver.gl (st0 l) (fun _ => false) ∧ (tOver.nr * (0 + 32) + tOver.nd * 4) + 3 * (tOver.lr * (0 + 32) + tOver.ld * 4) ≤ 875 :=
  ⟨⟨st0_cor hl, fun _ _ _ _ => rfl⟩, rfl, trivial, by decide⟩
theorem mark_begin {l : List Int} (hl : Ris l) : aMark.cor (st0 l) ∧ tMark.chn (st0 l) l.length ∧ tMark.gl (st0 l) (fun _ => false) ∧ (tMark.nr * (l.length + 32) + tMark.nd * 4) + 3 * (tMark.lr * (l.length + 32) + tMark.ld * 4) ≤ 875 :=
  ⟨st0_cor hl, st0_pn l, trivial, by
    have := ris_len hl
    show (14 * (l.length + 32) + 15 * 4) + 3 * (0 * (l.length + 32) + 0 * 4) ≤ 875
    omega⟩

end Go.Proofs.Ytfmdpmebllepeaa

/-
  WHAT IS LEFT: by nexts from the head's next to the tail, the keys without a mark: they rise, they are from 0 to 9, and they are the set. Plain mathematics. Nothing of the program.
-/
namespace Go.Proofs.Ytfmdpmebllepeaa

def lft (s : Bs) : Nat → Nat → List Int
  | 0, _ => []
  | n + 1, c => if s.mrk c = true then lft s n (s.nx c) else s.key c :: lft s n (s.nx c)

section
variable {s : Bs}
theorem Cor.first (h : Cor s) : s.nx 0 < s.sz ∧ Rn s.nx s.tl (s.nx 0) s.tl ∧ 0 ≤ s.key (s.nx 0) := by
  have h1 := h.nlt 0 h.pos (fun e => h.hd e.symm)
  have h2 := h.up 0 h.pos (fun e => h.hd e.symm)
  have h3 := (h.all s.tl h.tlt h.mt).next (fun e => h.hd e.symm)
  refine ⟨h1, h3.2, ?_⟩
  rw [h.k0] at h2
  omega
end
end Go.Proofs.Ytfmdpmebllepeaa

/-
  WHO IS NOT KEPT (HandsFree): a hand that marks, alone from some moment on, begins anew once at most: its deeds are over within 74 steps of its own, and what it was told stays: plain mathematics. Nothing of the program.
-/
namespace Go.Proofs.Ytfmdpmebllepeaa

section
variable {D : Nat → Nat → Int × Int} {len : Nat → Nat}
end
section
variable {A : Alg} {D : Nat → Nat → Int × Int} {len : Nat → Nat}
theorem told_go {W : Wd} {w : Nat} (he : W.ix w = len w) (v : Nat) : (W.go1 A D len v).ix w = len w ∧ ∀ j, (W.go1 A D len v).tol w j = W.tol w j := by
  by_cases hv : W.ix v < len v
  · have hne : w ≠ v := fun e => by rw [← e] at hv; omega
    have e1 : W.go1 A D len v = W.go A D v := by unfold Wd.go1; rw [if_pos hv]
    rw [e1]
    unfold Wd.go
    refine ⟨?_, fun j => ?_⟩
    · show upd W.ix v _ w = len w
      rw [upd_other _ _ hne]
      exact he
    · dsimp only
      split
      · show (if w = v ∧ j = W.ix v then _ else W.tol w j) = W.tol w j
        exact if_neg (fun x => hne x.1)
      · rfl
  · have e1 : W.go1 A D len v = W := by unfold Wd.go1; rw [if_neg hv]
    rw [e1]
    exact ⟨he, fun _ => rfl⟩
end
end Go.Proofs.Ytfmdpmebllepeaa

/-
  WHO IS ALONE: how many steps its deed takes, and what it is told (HandsAlone): plain mathematics. Nothing of the program.
-/
namespace Go.Proofs.Ytfmdpmebllepeaa

abbrev Sth := Bs × (Nat → Bool) × Hd
def stA (A : Alg) (kd K : Int) (x : Sth) : Rel := A.step x.1 x.2.1 x.2.2 kd K
def nxA (A : Alg) (kd K : Int) (x : Sth) : Sth := ((stA A kd K x).s, (stA A kd K x).lk, (stA A kd K x).h)
def Rs (A : Alg) (kd K : Int) : Nat → Sth → Sth → Prop
  | 0, x, y => x = y
  | n + 1, x, y => (stA A kd K x).over = false ∧ Rs A kd K n (nxA A kd K x) y
theorem Rs.snoc {A : Alg} {kd K : Int} : ∀ {n : Nat} {x y : Sth}, Rs A kd K n x y → (stA A kd K y).over = false → Rs A kd K (n + 1) x (nxA A kd K y)
  | 0, x, y, h, ho => by
    have e : x = y := h
    subst e
    exact ⟨ho, rfl⟩
  | n + 1, x, y, h, ho => ⟨h.1, Rs.snoc h.2 ho⟩
theorem Rs.on {A : Alg} {kd K : Int} {n : Nat} {x y : Sth} {r : Rel} (h : Rs A kd K n x y) (hr : stA A kd K y = r) (ho : r.over = false) : Rs A kd K (n + 1) x (r.s, r.lk, r.h) := by
  have := h.snoc (by rw [hr]; exact ho)
  unfold nxA at this
  rw [hr] at this
  exact this
def Alone (A : Alg) (kd K : Int) (l : List Int) (n : Nat) (is_ : Bool) : Prop := ∃ y, Rs A kd K n (st0 l, (fun _ => false), hd0) y ∧ (stA A kd K y).over = true ∧ (stA A kd K y).h.is_ = is_
theorem Alone.mk {A : Alg} {kd K : Int} {l : List Int} {n : Nat} {is_ : Bool} {y : Sth} {r : Rel} (h : Rs A kd K n (st0 l, (fun _ => false), hd0) y) (hr : stA A kd K y = r) (ho : r.over = true) (hi : r.h.is_ = is_) : Alone A kd K l n is_ :=
  ⟨y, h, by rw [hr]; exact ho, by rw [hr]; exact hi⟩

end Go.Proofs.Ytfmdpmebllepeaa

/-
  WHO IS ALONE, AS IT IS TOLD: the rounds of one hand with one deed: plain mathematics. Nothing of the program.
-/
namespace Go.Proofs.Ytfmdpmebllepeaa

section
variable {A : Alg} {D : Nat → Nat → Int × Int} {len : Nat → Nat} {kd K : Int}
end
end Go.Proofs.Ytfmdpmebllepeaa

/-
  THE NAIVE ONES: one step, what stays (keys rise by nexts), who is alone: plain mathematics. Nothing of the program.
-/
namespace Go.Proofs.Ytfmdpmebllepeaa

def Bs.insc (s : Bs) (p c : Nat) (K : Int) : Bs := { s with key := upd s.key s.sz K, nx := upd (upd s.nx s.sz c) p s.sz, mrk := upd s.mrk s.sz false, sz := s.sz + 1 }
def naiveS (s : Bs) (h : Hd) (kd K : Int) : Res :=
  if h.at_ = 0 then ⟨s, ⟨1, 0, s.nx 0, h.is_⟩, .none, false⟩
  else if h.at_ = 1 then
    (if s.key h.c < K then ⟨s, ⟨1, h.c, s.nx h.c, h.is_⟩, .none, false⟩
     else if kd = 3 then ⟨s, ⟨1, h.p, h.c, decide (s.key h.c = K)⟩, .none, true⟩
     else if (kd = 1 ∧ s.key h.c = K) ∨ (kd = 2 ∧ s.key h.c ≠ K) then ⟨s, ⟨1, h.p, h.c, false⟩, .none, true⟩
     else ⟨s, ⟨2, h.p, h.c, h.is_⟩, .none, false⟩)
  else if kd = 1 then ⟨s.insc h.p h.c K, ⟨2, h.p, h.c, true⟩, .none, true⟩
  else ⟨s.cut h.p h.c, ⟨2, h.p, h.c, true⟩, .none, true⟩
def aNaive : Alg := ⟨fun s lk h kd K => ⟨(naiveS s h kd K).s, lk, (naiveS s h kd K).h, (naiveS s h kd K).e, (naiveS s h kd K).over⟩, fun _ _ => False, fun _ _ => True, fun _ => False, fun _ => True, fun _ _ _ _ _ => True⟩

structure NCor (s : Bs) : Prop where
  tlt : s.tl < s.sz
  hd : s.tl ≠ 0
  k0 : s.key 0 = -1
  kt : s.key s.tl = 10
  nlt : ∀ i, i < s.sz → i ≠ s.tl → s.nx i < s.sz
  up : ∀ i, i < s.sz → i ≠ s.tl → s.key i < s.key (s.nx i)
  um : ∀ i, s.mrk i = false
theorem Cor.ncor {s : Bs} (h : Cor s) (hm : ∀ i, s.mrk i = false) : NCor s := ⟨h.tlt, h.hd, h.k0, h.kt, h.nlt, h.up, hm⟩
theorem st0_ncor {l : List Int} (h : Ris l) : NCor (st0 l) := (st0_cor h).ncor fun _ => rfl
structure NI (s : Bs) (h : Hd) (kd K : Int) : Prop where
  le : h.at_ ≤ 2
  pc : h.at_ ≠ 0 → h.p < s.sz ∧ h.c < s.sz ∧ s.key h.p < K
  two : h.at_ = 2 → (kd = 1 ∧ K < s.key h.c) ∨ (kd = 2 ∧ s.key h.c = K)
theorem NI.start (s : Bs) (kd K : Int) : NI s hd0 kd K := ⟨Nat.zero_le _, fun h => absurd rfl h, fun h => absurd h (by decide)⟩
theorem NI.other {s s' : Bs} {h : Hd} {kd K : Int} (hn : NI s h kd K) (hg : Grow s s') : NI s' h kd K := by
  refine ⟨hn.le, fun h0 => ?_, fun h2 => ?_⟩
  · obtain ⟨a, b, d⟩ := hn.pc h0
    exact ⟨Nat.lt_of_lt_of_le a hg.sz, Nat.lt_of_lt_of_le b hg.sz, by rw [hg.key _ a]; exact d⟩
  · rw [hg.key _ (hn.pc (by omega)).2.1]
    exact hn.two h2
section
variable {s : Bs}
theorem Grow.same : Grow s s := ⟨Nat.le_refl _, rfl, fun _ _ => rfl, fun _ _ h => h⟩
theorem NCor.pos (h : NCor s) : 0 < s.sz := by have := h.tlt; omega
theorem NCor.key_tl (h : NCor s) {p : Nat} {K : Int} (hK : 0 ≤ K ∧ K ≤ 9) (hp : s.key p < K ∨ s.key p = K) : p ≠ s.tl := fun e => by
  rw [e, h.kt] at hp
  omega
theorem NCor.insc (h : NCor s) {p c : Nat} {K : Int} (hK : 0 ≤ K ∧ K ≤ 9) (hp : p < s.sz) (hc : c < s.sz) (h1 : s.key p < K) (h2 : K < s.key c) : NCor (s.insc p c K) ∧ Grow s (s.insc p c K) := by
  have kO : ∀ i, i ≠ s.sz → (s.insc p c K).key i = s.key i := fun i hi => upd_other _ _ hi
  have kN : (s.insc p c K).key s.sz = K := upd_same _ _ _
  have nP : (s.insc p c K).nx p = s.sz := upd_same _ _ _
  have nN : (s.insc p c K).nx s.sz = c := by
    show upd (upd s.nx s.sz c) p s.sz s.sz = c
    rw [upd_other _ _ (by omega), upd_same]
  have nO : ∀ i, i ≠ s.sz → i ≠ p → (s.insc p c K).nx i = s.nx i := fun i hi hn => by
    show upd (upd s.nx s.sz c) p s.sz i = _
    rw [upd_other _ _ hn, upd_other _ _ hi]
  have hsz : (s.insc p c K).sz = s.sz + 1 := rfl
  have htl : (s.insc p c K).tl = s.tl := rfl
  have ht := h.tlt
  refine ⟨⟨by rw [hsz, htl]; omega, h.hd, by rw [kO 0 (by omega)]; exact h.k0, by rw [htl, kO _ (by omega)]; exact h.kt, fun i hi hne => ?_, fun i hi hne => ?_, fun i => ?_⟩, ⟨Nat.le_succ _, rfl, fun i hi => kO i (by omega), fun i hi hm => ?_⟩⟩
  · rw [hsz] at hi ⊢
    by_cases e : i = s.sz
    · rw [e, nN]; omega
    · by_cases e2 : i = p
      · rw [e2, nP]; omega
      · rw [nO i e e2]
        have := h.nlt i (by omega) hne
        omega
  · rw [hsz] at hi
    by_cases e : i = s.sz
    · rw [e, nN, kN, kO c (by omega)]; exact h2
    · by_cases e2 : i = p
      · rw [e2, nP, kN, kO p (by omega)]; exact h1
      · have := h.nlt i (by omega) hne
        rw [nO i e e2, kO i e, kO _ (by omega)]
        exact h.up i (by omega) hne
  · show upd s.mrk s.sz false i = false
    by_cases e : i = s.sz
    · rw [e, upd_same]
    · rw [upd_other _ _ e]; exact h.um i
  · rw [h.um i] at hm; cases hm
theorem NCor.cut (h : NCor s) {p c : Nat} {K : Int} (hK : 0 ≤ K ∧ K ≤ 9) (hp : p < s.sz) (hc : c < s.sz) (h1 : s.key p < K) (h2 : s.key c = K) : NCor (s.cut p c) ∧ Grow s (s.cut p c) := by
  have hct := h.key_tl hK (.inr h2)
  have nP : (s.cut p c).nx p = s.nx c := upd_same _ _ _
  have nO : ∀ i, i ≠ p → (s.cut p c).nx i = s.nx i := fun i hn => upd_other _ _ hn
  refine ⟨⟨h.tlt, h.hd, h.k0, h.kt, fun i hi hne => ?_, fun i hi hne => ?_, h.um⟩, ⟨Nat.le_refl _, rfl, fun _ _ => rfl, fun _ _ h => h⟩⟩
  · show (s.cut p c).nx i < s.sz
    by_cases e : i = p
    · rw [e, nP]; exact h.nlt c hc hct
    · rw [nO i e]; exact h.nlt i hi hne
  · show s.key i < s.key ((s.cut p c).nx i)
    by_cases e : i = p
    · rw [e, nP]
      have := h.up c hc hct
      omega
    · rw [nO i e]; exact h.up i hi hne
theorem NI.own {h : Hd} {kd K : Int} (hc : NCor s) (hn : NI s h kd K) (hd : Dee kd K) : NCor (naiveS s h kd K).s ∧ Grow s (naiveS s h kd K).s ∧ ((naiveS s h kd K).over = false → NI (naiveS s h kd K).s (naiveS s h kd K).h kd K) := by
  have hle := hn.le
  rcases (show h.at_ = 0 ∨ h.at_ = 1 ∨ h.at_ = 2 by omega) with h0 | h0 | h0
  · have e : naiveS s h kd K = ⟨s, ⟨1, 0, s.nx 0, h.is_⟩, .none, false⟩ := by unfold naiveS; rw [if_pos h0]
    rw [e]
    refine ⟨hc, Grow.same, fun _ => ⟨(show 1 ≤ 2 by decide), fun _ => ⟨hc.pos, hc.nlt 0 hc.pos (fun e => hc.hd e.symm), ?_⟩, fun h => by cases h⟩⟩
    show s.key 0 < K
    rw [hc.k0]
    have := hd.1.1
    omega
  · obtain ⟨hp, hcl, hpK⟩ := hn.pc (by omega)
    by_cases hlt : s.key h.c < K
    · have e : naiveS s h kd K = ⟨s, ⟨1, h.c, s.nx h.c, h.is_⟩, .none, false⟩ := by
        unfold naiveS
        rw [if_neg (by omega), if_pos h0, if_pos hlt]
      rw [e]
      exact ⟨hc, Grow.same, fun _ => ⟨(show 1 ≤ 2 by decide), fun _ => ⟨hcl, hc.nlt _ hcl (hc.key_tl hd.1 (.inl hlt)), hlt⟩, fun h => by cases h⟩⟩
    · by_cases k3 : kd = 3
      · have e : naiveS s h kd K = ⟨s, ⟨1, h.p, h.c, decide (s.key h.c = K)⟩, .none, true⟩ := by
          unfold naiveS
          rw [if_neg (by omega), if_pos h0, if_neg hlt, if_pos k3]
        rw [e]
        exact ⟨hc, Grow.same, fun h => by cases h⟩
      · by_cases hq : (kd = 1 ∧ s.key h.c = K) ∨ (kd = 2 ∧ s.key h.c ≠ K)
        · have e : naiveS s h kd K = ⟨s, ⟨1, h.p, h.c, false⟩, .none, true⟩ := by
            unfold naiveS
            rw [if_neg (by omega), if_pos h0, if_neg hlt, if_neg k3, if_pos hq]
          rw [e]
          exact ⟨hc, Grow.same, fun h => by cases h⟩
        · have e : naiveS s h kd K = ⟨s, ⟨2, h.p, h.c, h.is_⟩, .none, false⟩ := by
            unfold naiveS
            rw [if_neg (by omega), if_pos h0, if_neg hlt, if_neg k3, if_neg hq]
          rw [e]
          refine ⟨hc, Grow.same, fun _ => ⟨(show 2 ≤ 2 by decide), fun _ => ⟨hp, hcl, hpK⟩, fun _ => ?_⟩⟩
          show (kd = 1 ∧ K < s.key h.c) ∨ (kd = 2 ∧ s.key h.c = K)
          have := hd.2
          omega
  · obtain ⟨hp, hcl, hpK⟩ := hn.pc (by omega)
    by_cases k1 : kd = 1
    · have e : naiveS s h kd K = ⟨s.insc h.p h.c K, ⟨2, h.p, h.c, true⟩, .none, true⟩ := by
        unfold naiveS
        rw [if_neg (by omega), if_neg (by omega), if_pos k1]
      rw [e]
      have h2 : K < s.key h.c := by have := hn.two h0; omega
      obtain ⟨a, b⟩ := hc.insc hd.1 hp hcl hpK h2
      exact ⟨a, b, fun h => by cases h⟩
    · have e : naiveS s h kd K = ⟨s.cut h.p h.c, ⟨2, h.p, h.c, true⟩, .none, true⟩ := by
        unfold naiveS
        rw [if_neg (by omega), if_neg (by omega), if_neg k1]
      rw [e]
      have h2 : s.key h.c = K := by have := hn.two h0; omega
      obtain ⟨a, b⟩ := hc.cut hd.1 hp hcl hpK h2
      exact ⟨a, b, fun h => by cases h⟩
end
end Go.Proofs.Ytfmdpmebllepeaa

/-
  THE NAIVE ONES, ALL HANDS: what stays through an order and its rounds; every chain ends at the tail: plain mathematics. Nothing of the program.
-/
namespace Go.Proofs.Ytfmdpmebllepeaa

theorem pn_rise {s : Bs} (hn : ∀ i, i < s.sz → i ≠ s.tl → s.nx i < s.sz) (hu : ∀ i, i < s.sz → i ≠ s.tl → s.key i < s.key (s.nx i)) (hk : KB s) : ∀ (m i : Nat), i < s.sz → (10 - s.key i).toNat ≤ m → ∃ n, Pn s.nx s.tl i n ∧ n ≤ m := by
  intro m
  induction m with
  | zero =>
    intro i hi hm
    by_cases e : i = s.tl
    · subst e
      exact ⟨0, .last, Nat.le_refl _⟩
    · have h1 := hu i hi e
      have h2 := (hk _ (hn i hi e)).2
      omega
  | succ m ih =>
    intro i hi hm
    by_cases e : i = s.tl
    · subst e
      exact ⟨0, .last, Nat.zero_le _⟩
    · have h1 := hu i hi e
      obtain ⟨n, h2, h3⟩ := ih _ (hn i hi e) (by omega)
      exact ⟨n + 1, .step e h2, by omega⟩
theorem naive_kb {s : Bs} {h : Hd} {kd K : Int} (hk : KB s) (hd : Dee kd K) : KB (naiveS s h kd K).s := by
  have hi : KB (s.insc h.p h.c K) := by
    intro i hi
    have hi : i < s.sz + 1 := hi
    show -1 ≤ upd s.key s.sz K i ∧ upd s.key s.sz K i ≤ 10
    by_cases e : i = s.sz
    · rw [e, upd_same]
      have := hd.1
      omega
    · rw [upd_other _ _ e]
      exact hk i (by omega)
  unfold naiveS
  repeat' split
  all_goals first | exact hk | exact hi
structure NW (D : Nat → Nat → Int × Int) (len : Nat → Nat) (W : Wd) : Prop where
  cor : NCor W.s
  kb : KB W.s
  inv : ∀ w, NI W.s (W.hs w) (D w (W.ix w)).1 (D w (W.ix w)).2
  ixl : ∀ w, W.ix w ≤ len w
section
variable {D : Nat → Nat → Int × Int} {len : Nat → Nat}
theorem NW.begin_ (D : Nat → Nat → Int × Int) (len : Nat → Nat) {l : List Int} (h : Ris l) : NW D len (Wd.begin_ l) := ⟨st0_ncor h, st0_kb h, fun _ => NI.start _ _ _, fun _ => Nat.zero_le _⟩
theorem NW.go1 (hD : Dees D len) {W : Wd} (h : NW D len W) (v : Nat) : NW D len (W.go1 aNaive D len v) := by
  by_cases hv : W.ix v < len v
  · have e1 : W.go1 aNaive D len v = W.go aNaive D v := by unfold Wd.go1; rw [if_pos hv]
    rw [e1]
    have hd := hD v _ hv
    have hi := h.inv v
    obtain ⟨kd, hkd⟩ : ∃ kd, (D v (W.ix v)).1 = kd := ⟨_, rfl⟩
    obtain ⟨K, hK⟩ : ∃ K, (D v (W.ix v)).2 = K := ⟨_, rfl⟩
    rw [hkd, hK] at hi hd
    obtain ⟨a, b, c⟩ := NI.own h.cor hi hd
    have hkb := naive_kb (h := W.hs v) h.kb hd
    obtain ⟨r, hr⟩ : ∃ r, naiveS W.s (W.hs v) kd K = r := ⟨_, rfl⟩
    rw [hr] at a b c hkb
    have gs : (W.go aNaive D v).s = r.s := by unfold Wd.go aNaive; simp only [hkd, hK, hr]
    have gh : ∀ w, (W.go aNaive D v).hs w = if w = v then (if r.over = true then hd0 else r.h) else W.hs w := fun w => by
      unfold Wd.go aNaive Rel.nh; simp only [hkd, hK, hr]; rfl
    have gi : ∀ w, (W.go aNaive D v).ix w = if w = v then (if r.over = true then W.ix v + 1 else W.ix v) else W.ix w := fun w => by
      unfold Wd.go aNaive; simp only [hkd, hK, hr]; rfl
    refine ⟨by rw [gs]; exact a, by rw [gs]; exact hkb, fun w => ?_, fun w => ?_⟩
    · rw [gs, gh, gi]
      by_cases e : w = v
      · subst e
        rw [if_pos rfl, if_pos rfl]
        cases ho : r.over with
        | true =>
          rw [if_pos rfl]
          exact NI.start _ _ _
        | false =>
          rw [if_neg (by simp), if_neg (by simp), hkd, hK]
          exact c ho
      · rw [if_neg e, if_neg e]
        exact (h.inv w).other b
    · rw [gi]
      have := h.ixl w
      split
      · rename_i e
        subst e
        split <;> omega
      · exact this
  · have e1 : W.go1 aNaive D len v = W := by unfold Wd.go1; rw [if_neg hv]
    rw [e1]
    exact h
theorem NW.runs (hD : Dees D len) : ∀ (ws : List Nat) {W : Wd}, NW D len W → NW D len (W.runs aNaive D len ws)
  | [], _, h => h
  | v :: ws, _, h => NW.runs hD ws (h.go1 hD v)
theorem NW.rounds (hD : Dees D len) {nh : Nat} {W : Wd} (h : NW D len W) : ∀ k, NW D len (W.rounds aNaive D len nh k)
  | 0 => h
  | k + 1 => NW.runs hD _ (NW.rounds hD h k)
end
end Go.Proofs.Ytfmdpmebllepeaa

/-
  THE NAIVE ONES, TO THEIR END: each step goes on, all deeds are over within 60 rounds; what any algorithm's orders leave of numbers of steps and of what was told: plain mathematics. Nothing of the program.
-/
namespace Go.Proofs.Ytfmdpmebllepeaa

theorem naive_go {s : Bs} {h : Hd} {kd K : Int} (hc : NCor s) (hk : KB s) (hn : NI s h kd K) (hK : 0 ≤ K ∧ K ≤ 9) : markP s h + 1 ≤ 15 ∧ ((naiveS s h kd K).over = true ∨ markP s h + 1 ≤ markP (naiveS s h kd K).s (naiveS s h kd K).h) := by
  have hle := hn.le
  rcases (show h.at_ = 0 ∨ h.at_ = 1 ∨ h.at_ = 2 by omega) with h0 | h0 | h0
  · have e1 : markP s h = 0 := by unfold markP; rw [if_pos h0]
    have e : naiveS s h kd K = ⟨s, ⟨1, 0, s.nx 0, h.is_⟩, .none, false⟩ := by unfold naiveS; rw [if_pos h0]
    rw [e, e1]
    refine ⟨by decide, .inr ?_⟩
    show 0 + 1 ≤ 1 + (s.key (s.nx 0) + 1).toNat
    omega
  · obtain ⟨hp, hcl, hpK⟩ := hn.pc (by omega)
    have e1 : markP s h = 1 + (s.key h.c + 1).toNat := by unfold markP; rw [if_neg (by omega), if_pos h0]
    have hkc := hk h.c hcl
    rw [e1]
    refine ⟨by omega, ?_⟩
    by_cases hlt : s.key h.c < K
    · have e : naiveS s h kd K = ⟨s, ⟨1, h.c, s.nx h.c, h.is_⟩, .none, false⟩ := by
        unfold naiveS
        rw [if_neg (by omega), if_pos h0, if_pos hlt]
      have h3 := hc.up h.c hcl (hc.key_tl hK (.inl hlt))
      rw [e]
      right
      show _ ≤ 1 + (s.key (s.nx h.c) + 1).toNat
      omega
    · by_cases k3 : kd = 3
      · left
        unfold naiveS
        rw [if_neg (by omega), if_pos h0, if_neg hlt, if_pos k3]
      · by_cases hq : (kd = 1 ∧ s.key h.c = K) ∨ (kd = 2 ∧ s.key h.c ≠ K)
        · left
          unfold naiveS
          rw [if_neg (by omega), if_pos h0, if_neg hlt, if_neg k3, if_pos hq]
        · have e : naiveS s h kd K = ⟨s, ⟨2, h.p, h.c, h.is_⟩, .none, false⟩ := by
            unfold naiveS
            rw [if_neg (by omega), if_pos h0, if_neg hlt, if_neg k3, if_neg hq]
          rw [e]
          right
          show _ ≤ 11 + 2
          omega
  · have e1 : markP s h = 13 := by unfold markP; rw [if_neg (by omega), if_neg (by omega), h0]
    rw [e1]
    refine ⟨by decide, .inl ?_⟩
    unfold naiveS
    rw [if_neg (by omega), if_neg (by omega)]
    split <;> rfl
section
variable {A : Alg} {D : Nat → Nat → Int × Int} {len : Nat → Nat}
theorem go1_now (W : Wd) (v : Nat) : W.now ≤ (W.go1 A D len v).now ∧ (W.go1 A D len v).now ≤ W.now + 1 := by
  unfold Wd.go1
  split
  · exact ⟨Nat.le_succ _, Nat.le_refl _⟩
  · exact ⟨Nat.le_refl _, Nat.le_succ _⟩
theorem runs_now : ∀ (ws : List Nat) (W : Wd), W.now ≤ (W.runs A D len ws).now ∧ (W.runs A D len ws).now ≤ W.now + ws.length
  | [], _ => ⟨Nat.le_refl _, Nat.le_refl _⟩
  | v :: ws, W => by
    have h1 := go1_now (A := A) (D := D) (len := len) W v
    have h2 := runs_now ws (W.go1 A D len v)
    have h3 : (v :: ws).length = ws.length + 1 := rfl
    have h4 : W.runs A D len (v :: ws) = (W.go1 A D len v).runs A D len ws := rfl
    rw [h3, h4]
    omega
theorem rounds_now {nh : Nat} (W : Wd) : ∀ k, W.now ≤ (W.rounds A D len nh k).now ∧ (W.rounds A D len nh k).now ≤ W.now + nh * k
  | 0 => ⟨Nat.le_refl _, Nat.le_refl _⟩
  | k + 1 => by
    have h1 := rounds_now (nh := nh) W k
    have h2 := runs_now (A := A) (D := D) (len := len) (List.range nh) (W.rounds A D len nh k)
    rw [List.length_range] at h2
    have h3 : W.rounds A D len nh (k + 1) = (W.rounds A D len nh k).runs A D len (List.range nh) := rfl
    have h4 : nh * (k + 1) = nh * k + nh := Nat.mul_succ _ _
    rw [h3, h4]
    omega
end
section
variable {D : Nat → Nat → Int × Int} {len : Nat → Nat}
def Far (len : Nat → Nat) (W : Wd) (w k : Nat) : Prop := W.ix w = len w ∨ k ≤ 15 * W.ix w + markP W.s (W.hs w)
theorem far_go1 (hD : Dees D len) {W : Wd} (h : NW D len W) {w k : Nat} (hf : Far len W w k) (v : Nat) : Far len (W.go1 aNaive D len v) w (if v = w then k + 1 else k) := by
  by_cases hl : W.ix w = len w
  · exact .inl (told_go (A := aNaive) (D := D) hl v).1
  have hf : k ≤ 15 * W.ix w + markP W.s (W.hs w) := by
    rcases hf with hf | hf
    · exact absurd hf hl
    · exact hf
  have hixl := h.ixl w
  by_cases hv : W.ix v < len v
  · have e1 : W.go1 aNaive D len v = W.go aNaive D v := by unfold Wd.go1; rw [if_pos hv]
    rw [e1]
    have hd := hD v _ hv
    have hi := h.inv v
    obtain ⟨kd, hkd⟩ : ∃ kd, (D v (W.ix v)).1 = kd := ⟨_, rfl⟩
    obtain ⟨K, hK⟩ : ∃ K, (D v (W.ix v)).2 = K := ⟨_, rfl⟩
    rw [hkd, hK] at hi hd
    obtain ⟨_, hg, _⟩ := NI.own h.cor hi hd
    obtain ⟨ht, hgo⟩ := naive_go h.cor h.kb hi hd.1
    obtain ⟨r, hr⟩ : ∃ r, naiveS W.s (W.hs v) kd K = r := ⟨_, rfl⟩
    rw [hr] at hg hgo
    have gs : (W.go aNaive D v).s = r.s := by unfold Wd.go aNaive; simp only [hkd, hK, hr]
    have gh : ∀ w, (W.go aNaive D v).hs w = if w = v then (if r.over = true then hd0 else r.h) else W.hs w := fun w => by
      unfold Wd.go aNaive Rel.nh; simp only [hkd, hK, hr]; rfl
    have gi : ∀ w, (W.go aNaive D v).ix w = if w = v then (if r.over = true then W.ix v + 1 else W.ix v) else W.ix w := fun w => by
      unfold Wd.go aNaive; simp only [hkd, hK, hr]; rfl
    right
    rw [gs, gh, gi]
    by_cases e : w = v
    · subst e
      rw [if_pos rfl, if_pos rfl, if_pos rfl]
      cases ho : r.over with
      | true =>
        rw [if_pos rfl, if_pos rfl]
        omega
      | false =>
        rw [if_neg (by simp), if_neg (by simp)]
        rcases hgo with hgo | hgo
        · rw [ho] at hgo; cases hgo
        · omega
    · rw [if_neg (fun x => e x.symm), if_neg e, if_neg e]
      have : markP r.s (W.hs w) = markP W.s (W.hs w) := by
        unfold markP
        by_cases h0 : (W.hs w).at_ = 0
        · rw [if_pos h0, if_pos h0]
        · rw [hg.key _ ((h.inv w).pc h0).2.1]
      rw [this]
      exact hf
  · have e1 : W.go1 aNaive D len v = W := by unfold Wd.go1; rw [if_neg hv]
    rw [e1]
    have : v ≠ w := fun e => by subst e; omega
    rw [if_neg this]
    exact .inr hf
theorem far_runs (hD : Dees D len) : ∀ (ws : List Nat) {W : Wd}, NW D len W → ∀ {w k : Nat}, Far len W w k → Far len (W.runs aNaive D len ws) w k ∧ (w ∈ ws → Far len (W.runs aNaive D len ws) w (k + 1))
  | [], _, _, _, _, hf => ⟨hf, fun h => by cases h⟩
  | v :: ws, W, h, w, k, hf => by
    have h1 := far_go1 hD h hf v
    have hw := h.go1 hD v
    show Far len ((W.go1 aNaive D len v).runs aNaive D len ws) w k ∧ (w ∈ v :: ws → Far len ((W.go1 aNaive D len v).runs aNaive D len ws) w (k + 1))
    by_cases e : v = w
    · rw [if_pos e] at h1
      have h2 := (far_runs hD ws hw h1).1
      refine ⟨?_, fun _ => h2⟩
      rcases h2 with h2 | h2
      · exact .inl h2
      · exact .inr (by omega)
    · rw [if_neg e] at h1
      obtain ⟨a, b⟩ := far_runs hD ws hw h1
      refine ⟨a, fun hm => ?_⟩
      rcases List.mem_cons.1 hm with rfl | hm
      · exact absurd rfl e
      · exact b hm
theorem far_rounds (hD : Dees D len) {nh : Nat} {W : Wd} (h : NW D len W) {w : Nat} (hw : w < nh) : ∀ k, Far len (W.rounds aNaive D len nh k) w k
  | 0 => .inr (Nat.zero_le _)
  | k + 1 => (far_runs hD (List.range nh) (h.rounds hD k) (far_rounds hD h hw k)).2 (List.mem_range.2 hw)
theorem naive_end (hD : Dees D len) {nh : Nat} (hl4 : ∀ w, len w ≤ 4) (hlen : ∀ w, nh ≤ w → len w = 0) {W : Wd} (h : NW D len W) {k : Nat} (hk : 60 ≤ k) : ∀ w, (W.rounds aNaive D len nh k).ix w = len w := by
  intro w
  have hn := h.rounds (nh := nh) hD k
  have hix := hn.ixl w
  by_cases hw : w < nh
  · rcases far_rounds hD h hw k with hf | hf
    · exact hf
    apply Classical.byContradiction
    intro hne
    have hd := hD w _ (show (W.rounds aNaive D len nh k).ix w < len w by omega)
    have ht := (naive_go hn.cor hn.kb (hn.inv w) hd.1).1
    have := hl4 w
    omega
  · have := hlen w (by omega)
    omega
end
end Go.Proofs.Ytfmdpmebllepeaa

/-
  TWO SMALL ONES, STEP BY STEP: those hand over hand that are to show that it lives; the naive ones that lose a key (HandsNaive): plain mathematics. Nothing of the program.
-/
namespace Go.Proofs.Ytfmdpmebllepeaa

end Go.Proofs.Ytfmdpmebllepeaa

/-
  What was begun, in the order in which it was begun, beside the plain steps. Plain mathematics.
-/
namespace Go.Proofs.Ytfmdpmebllepeaa

def isV (v j : Nat) (x : Dn) : Bool := decide (x.w = v) && decide (x.j = j)
def dpt (W : Wd) (v j : Nat) : List Dn := if j < W.ix v then [tolD W v j] else if j = W.ix v then (match W.bg v with | some b => [⟨v, j, b, -1, false⟩] | none => []) else []
def DI (W : Wd) (L : List Dn) : Prop := ∀ v j, L.filter (isV v j) = dpt W v j
theorem isV_self (v j : Nat) (b e : Int) (i : Bool) : isV v j ⟨v, j, b, e, i⟩ = true := by simp [isV]
theorem isV_other {v j v' j' : Nat} (h : ¬ (v' = v ∧ j' = j)) (b e : Int) (i : Bool) : isV v' j' ⟨v, j, b, e, i⟩ = false := by
  unfold isV
  by_cases h1 : v = v'
  · by_cases h2 : j = j'
    · exact absurd ⟨h1.symm, h2.symm⟩ h
    · simp [h2]
  · simp [h1]
theorem DI.had {W : Wd} {L : List Dn} {v b : Nat} (h : DI W L) (hb : W.bg v = some b) : ∃ X Y, L = X ++ ⟨v, W.ix v, b, -1, false⟩ :: Y ∧ (∀ x ∈ X, isV v (W.ix v) x = false) ∧ Y.filter (isV v (W.ix v)) = [] := by
  have h1 := h v (W.ix v)
  unfold dpt at h1
  rw [if_neg (Nat.lt_irrefl _), if_pos rfl, hb] at h1
  obtain ⟨X, Y, e, h2, h3, h4⟩ := List.filter_eq_cons_iff.mp h1
  exact ⟨X, Y, e, fun x hx => by simpa using h2 x hx, h4⟩
theorem DI.new {W : Wd} {L : List Dn} {v : Nat} (h : DI W L) (hb : W.bg v = none) : ∀ x ∈ L, isV v (W.ix v) x = false := by
  have h1 := h v (W.ix v)
  unfold dpt at h1
  rw [if_neg (Nat.lt_irrefl _), if_pos rfl, hb] at h1
  intro x hx
  have h2 := List.filter_eq_nil_iff.mp h1 x hx
  simpa using h2
theorem DI.go {W : Wd} {L X Y : List Dn} {v : Nat} {A : Alg} {D : Nat → Nat → Int × Int} {r : Rel} (h : DI W L) (hr : A.step W.s W.lk (W.hs v) (D v (W.ix v)).1 (D v (W.ix v)).2 = r) {b : Nat} (hb : (W.bg v).getD W.now = b)
    (hX : ∀ x ∈ X, isV v (W.ix v) x = false) (hY : Y.filter (isV v (W.ix v)) = [])
    (hL : (W.bg v = some b ∧ L = X ++ ⟨v, W.ix v, b, -1, false⟩ :: Y) ∨ (W.bg v = none ∧ L = X ∧ Y = [])) :
    DI (W.go A D v) (X ++ (if r.over = true then ⟨v, W.ix v, b, W.now, r.h.is_⟩ else ⟨v, W.ix v, b, -1, false⟩) :: Y) := by
  have hgo : W.go A D v = ⟨r.s, r.lk, upd W.hs v r.nh, upd W.ix v (if r.over = true then W.ix v + 1 else W.ix v), upd W.bg v (if r.over = true then none else some b), W.now + 1,
    if r.over = true then fun w' j => if w' = v ∧ j = W.ix v then some (b, W.now, r.h.is_) else W.tol w' j else W.tol⟩ := by
    unfold Wd.go
    simp only [hr, hb]
  have hXf : X.filter (isV v (W.ix v)) = [] := List.filter_eq_nil_iff.mpr fun x hx => by simp [hX x hx]
  obtain ⟨d, hd⟩ : ∃ d, (if r.over = true then (⟨v, W.ix v, b, W.now, r.h.is_⟩ : Dn) else ⟨v, W.ix v, b, -1, false⟩) = d := ⟨_, rfl⟩
  rw [hd]
  have hds : isV v (W.ix v) d = true := by rw [← hd]; split <;> exact isV_self _ _ _ _ _
  have hdo : ∀ v' j', ¬ (v' = v ∧ j' = W.ix v) → isV v' j' d = false := fun v' j' hn => by rw [← hd]; split <;> exact isV_other hn _ _ _
  intro v' j'
  rw [List.filter_append, List.filter_cons]
  by_cases he : v' = v ∧ j' = W.ix v
  · obtain ⟨rfl, rfl⟩ := he
    rw [hXf, hds, hY, hgo]
    unfold dpt
    cases ho : r.over with
    | true =>
      simp only [if_true, upd_same]
      rw [if_pos (Nat.lt_succ_self _)]
      unfold tolD
      simp only [true_and, if_true, List.nil_append]
      rw [ho, if_pos rfl] at hd
      rw [← hd]
    | false =>
      rw [ho, if_neg (by decide)] at hd
      rw [← hd]
      simp [upd_same]
  · rw [hdo v' j' he]
    have hLo : X.filter (isV v' j') ++ Y.filter (isV v' j') = dpt W v' j' := by
      rw [← h v' j']
      rcases hL with ⟨_, e⟩ | ⟨_, e, e2⟩
      · rw [e, List.filter_append, List.filter_cons, isV_other he]
        rfl
      · rw [e, e2]
        simp
    simp only [Bool.false_eq_true, if_false]
    rw [hLo, hgo]
    unfold dpt
    by_cases hv : v' = v
    · subst hv
      have hj : j' ≠ W.ix v' := fun e => he ⟨rfl, e⟩
      cases ho : r.over with
      | true =>
        simp only [if_true, upd_same]
        by_cases hlt : j' < W.ix v'
        · rw [if_pos hlt, if_pos (by omega)]
          unfold tolD
          simp only [true_and]
          rw [if_neg hj]
        · rw [if_neg hlt, if_neg hj, if_neg (by omega)]
          by_cases e : j' = W.ix v' + 1
          · rw [if_pos e]
          · rw [if_neg e]
      | false =>
        simp only [Bool.false_eq_true, if_false, upd_same]
        rw [if_neg hj, if_neg hj]
        rfl
    · simp only [upd_other _ _ hv]
      have ht : tolD W v' j' = tolD ⟨r.s, r.lk, upd W.hs v r.nh, upd W.ix v (if r.over = true then W.ix v + 1 else W.ix v), upd W.bg v (if r.over = true then none else some b), W.now + 1,
          if r.over = true then fun w' j => if w' = v ∧ j = W.ix v then some (b, W.now, r.h.is_) else W.tol w' j else W.tol⟩ v' j' := by
        unfold tolD
        cases ho : r.over with
        | true =>
          simp only [if_true]
          rw [if_neg (fun e => hv e.1)]
        | false => rfl
      rw [ht]
theorem DI.begin_ {s0 : Bs} {lk0 : Nat → Bool} {hs0 : Nat → Hd} {n0 : Nat} {t0 : Nat → Nat → Option (Nat × Nat × Bool)} : DI ⟨s0, lk0, hs0, fun _ => 0, fun _ => none, n0, t0⟩ [] := by
  intro v j
  unfold dpt
  rw [if_neg (Nat.not_lt_zero _)]
  split <;> rfl
end Go.Proofs.Ytfmdpmebllepeaa

/-
  What hedgref's Handled tells, hand by hand and deed by deed: plain mathematics.
-/
namespace Go.Proofs.Ytfmdpmebllepeaa

def Tpt (W : Wd) (len : Nat → Nat) (i j : Nat) : List Dn := Tdl W i len ++ (List.range j).map (tolD W i)
theorem Tpt_0 (W : Wd) (len : Nat → Nat) (i : Nat) : Tpt W len i 0 = Tdl W i len := by simp [Tpt]
theorem Tpt_succ (W : Wd) (len : Nat → Nat) (i j : Nat) : Tpt W len i (j + 1) = Tpt W len i j ++ [tolD W i j] := by
  unfold Tpt
  rw [List.range_succ, List.map_append, List.append_assoc]
  rfl
theorem Tpt_next (W : Wd) (len : Nat → Nat) (i : Nat) : Tpt W len i (len i) = Tdl W (i + 1) len := by
  unfold Tpt Tdl
  rw [List.range_succ, List.flatMap_append]
  simp
theorem tdl_0 (W : Wd) (len : Nat → Nat) : Tdl W 0 len = [] := rfl
theorem tdl_le (W : Wd) {len : Nat → Nat} (h : ∀ v, len v ≤ 4) : ∀ n, (Tdl W n len).length ≤ 4 * n
  | 0 => by simp [tdl_0]
  | n + 1 => by
    have h1 := tdl_le W h n
    rw [← Tpt_next]
    unfold Tpt
    rw [List.length_append, List.length_map, List.length_range]
    have := h n
    omega
theorem ftake_succ {p : Dn → Bool} {D : List Dn} {k : Nat} (hk : k < D.length) : (D.take (k + 1)).filter p = (D.take k).filter p ++ (if p D[k] = true then [D[k]] else []) := by
  rw [List.take_succ_eq_append_getElem hk, List.filter_append]
  congr 1
  simp [List.filter_cons]
theorem ftake_all {p : Dn → Bool} {D : List Dn} : (D.take D.length).filter p = D.filter p := by rw [List.take_length]
theorem ftake_le {p : Dn → Bool} {D : List Dn} (k : Nat) : ((D.take k).filter p).length ≤ D.length := by
  have h1 := List.length_filter_le p (D.take k)
  have h2 := List.length_take_le' k D
  omega
theorem DI.one {W : Wd} {D : List Dn} (h : DI W D) {i j : Nat} (hj : j < W.ix i) : D.filter (isV i j) = [tolD W i j] := by
  rw [h i j]
  unfold dpt
  rw [if_pos hj]
theorem fix1_at {p : Dn → Bool} (X Y : List Dn) (d : Dn) (hd : p d = true) (hX : ∀ x ∈ X, p x = false) : (X ++ d :: Y).findIdx? p = some X.length := by
  rw [List.findIdx?_eq_some_iff_getElem]
  refine ⟨by simp, by simpa using hd, fun j hj => ?_⟩
  rw [List.getElem_append_left hj]
  simp [hX _ (List.getElem_mem hj)]
end Go.Proofs.Ytfmdpmebllepeaa
