/-
  package hands: of each of the four ways: what holds at each step, and in the end.
-/
import Derived.Test.YtfmdpmebllepeaaJRun
import Derived.Test.YtfmdpmebllepeaaMLivesAll
namespace Go.Proofs.Ytfmdpmebllepeaa
open Go.RowKit

theorem Cor.listOk {s : Bs} (h : Cor s) (hk : KB s) : ListOk s where
  h0 := h.pos
  h0t := h.hd.symm
  htl := h.tlt
  hnl := h.nlt
  hk := h.kt
  hk2 := fun i hi hn => by have h1 := h.up i hi hn; have h2 := (hk _ (h.nlt i hi hn)).2; omega
  hup := h.up
  hkb := fun i hi => (hk i hi).2
  kb := hk
theorem NCor.listOk {s : Bs} (h : NCor s) (hk : KB s) : ListOk s where
  h0 := h.pos
  h0t := h.hd.symm
  htl := h.tlt
  hnl := h.nlt
  hk := h.kt
  hk2 := fun i hi hn => by have h1 := h.up i hi hn; have h2 := (hk _ (h.nlt i hi hn)).2; omega
  hup := h.up
  hkb := fun i hi => (hk i hi).2
  kb := hk
theorem ListOk.pn {s : Bs} (h : ListOk s) : ∃ m, Pn s.nx s.tl (s.nx 0) m ∧ m ≤ 1000 := by
  obtain ⟨m, h1, h2⟩ := pn_rise h.hnl h.hup h.kb 1000 (s.nx 0) (h.hnl 0 h.h0 h.h0t) (by have := (h.kb (s.nx 0) (h.hnl 0 h.h0 h.h0t)).1; omega)
  exact ⟨m, h1, h2⟩
/-- what may come: valid deeds, few -/
structure DOk (nh : Nat) (P : Nat → PL) (l : List Int) : Prop where
  ris : Ris l
  nh4 : nh ≤ 4
  l4 : ∀ v, (P v).length ≤ 4
  out : ∀ v, nh ≤ v → (P v).length = 0
  dees : Dees (dds P) (fun v => (P v).length)
/-- which hand is at a deed -/
structure PBd (P : Nat → PL) (W : Wd) : Prop where
  blt : ∀ v b, W.bg v = some b → W.ix v < (P v).length
  ixl : ∀ v, W.ix v ≤ (P v).length
theorem PBd.go1 {P : Nat → PL} {W : Wd} (h : PBd P W) (A : Alg) (v : Nat) : PBd P (W.go1 A (dds P) (fun v => (P v).length) v) := by
  unfold Wd.go1
  by_cases hi : W.ix v < (P v).length
  · rw [if_pos hi]
    refine ⟨fun v' b hb => ?_, fun v' => ?_⟩
    · have hb' : upd W.bg v (if (A.step W.s W.lk (W.hs v) (dds P v (W.ix v)).1 (dds P v (W.ix v)).2).over = true then none else some ((W.bg v).getD W.now)) v' = some b := hb
      show upd W.ix v (if (A.step W.s W.lk (W.hs v) (dds P v (W.ix v)).1 (dds P v (W.ix v)).2).over = true then W.ix v + 1 else W.ix v) v' < _
      by_cases e : v' = v
      · subst e
        rw [upd_same] at hb' ⊢
        split at hb'
        · cases hb'
        · rename_i ho
          rw [if_neg ho]
          exact hi
      · rw [upd_other _ _ e] at hb' ⊢
        exact h.blt v' b hb'
    · show upd W.ix v (if (A.step W.s W.lk (W.hs v) (dds P v (W.ix v)).1 (dds P v (W.ix v)).2).over = true then W.ix v + 1 else W.ix v) v' ≤ _
      by_cases e : v' = v
      · subst e
        rw [upd_same]
        split <;> omega
      · rw [upd_other _ _ e]
        exact h.ixl v'
  · rw [if_neg hi]; exact h
theorem PBd.runs {P : Nat → PL} (A : Alg) : ∀ (ws : List Nat) {W : Wd}, PBd P W → PBd P (W.runs A (dds P) (fun v => (P v).length) ws) := by
  intro ws
  induction ws with
  | nil => intro W h; exact h
  | cons a ws ih => intro W h; exact ih (h.go1 A a)
theorem PBd.rounds {P : Nat → PL} (A : Alg) {nh : Nat} {W : Wd} (h : PBd P W) : ∀ k, PBd P (W.rounds A (dds P) (fun v => (P v).length) nh k) := by
  intro k
  induction k with
  | zero => exact h
  | succ k ih => exact PBd.runs A _ ih
theorem PBd.begin_ (P : Nat → PL) (l : List Int) : PBd P (Wd.begin_ l) := ⟨fun v b hb => (by cases hb), fun v => Nat.zero_le _⟩
theorem wend_pb (al nh : Nat) (P : Nat → PL) (l ord : List Int) : PBd P (Wend al nh P l ord) := PBd.rounds _ (PBd.runs _ _ (PBd.begin_ P l)) _
section
variable {nh : Nat} {P : Nat → PL} {l ord : List Int}
theorem sound_one {al : Nat} {A : Alg} {T : AlgT} (hal : alg al = A) (hA : AlgOk A) (hT : AlgTOk A T) {c0 : Nat} (hd : DOk nh P l) (ho : ord.length ≤ 500) (hc : A.cor (st0 l)) (hch : T.chn (st0 l) c0) (hg : T.gl (st0 l) (fun _ => false)) (hB : (T.nr * (c0 + 32) + T.nd * 4) + 3 * (T.lr * (c0 + 32) + T.ld * 4) ≤ 875)
    (hJ : ∀ {s : Bs} {lk : Nat → Bool} {q : Hd} {kd K : Int} {g : Prop}, A.cor s → A.inv s q kd K g → (al = 1 ∧ Cor1 s ∧ KI s q K) ∨ (al = 2 ∧ Cor s ∧ ∃ g, LI s q kd K g) ∨ (al = 3 ∧ Cor s ∧ ∃ g, MI s q kd K g) ∨ (al = 4 ∧ NCor s ∧ NI s q kd K)) :
    Sound al nh P l ord (fun W => ∃ S mv G, HI A (dds P) S mv W ∧ TI A T (dds P) (fun v => (P v).length) nh c0 W G) := by
  obtain ⟨e1, e2, _⟩ := hands_end hA hT hd.dees hd.nh4 hd.l4 hd.out hB hd.ris hc hch hg (ord := ordN nh ord) ordN_lt (Nat.le_trans (ordN_len (nh := nh) (ord := ord)) ho) rfl
  refine ⟨⟨_, _, _, begin_HI hA (dds P) hc, begin_TI hA hT (dds P) hd.ris hch hg⟩, ?_, ?_, ?_, ?_, ?_⟩
  · rintro W v ⟨S, mv, G, h, t⟩ hv hi
    rw [hal]
    obtain ⟨S', mv', h', _⟩ := h.step hA v (hd.dees v _ hi)
    obtain ⟨G', t', _⟩ := t.step hA hT h hv hi hd.dees
    exact ⟨S', mv', G', h', t'⟩
  · rintro W ⟨S, mv, G, h, t⟩ v hi
    refine ⟨⟨hd.dees v _ hi, ?_, hJ (lk := W.lk) h.cor (h.inv v)⟩, h.non v⟩
    cases hl : W.lk W.s.sz with
    | false => rfl
    | true =>
      obtain ⟨w, hw⟩ := t.lk3 _ hl
      have := (own_lt hA hT h t hd.dees hw).2
      omega
  · rintro W ⟨S, mv, G, h, t⟩
    exact (hA.core h.cor).listOk t.kb
  · intro k hk
    rw [hal]
    exact e1 k hk
  · intro v hv
    rw [hal]
    have := (e2 v).1
    omega
theorem sound_over (hd : DOk nh P l) (ho : ord.length ≤ 500) : ∃ Inv, Sound 1 nh P l ord Inv := by
  obtain ⟨a, b, c, d⟩ := over_begin hd.ris
  exact ⟨_, sound_one (al := 1) rfl aOver_ok tOver_ok hd ho a b c d fun h1 h2 => .inl ⟨rfl, h1, h2⟩⟩
theorem sound_lazy (hd : DOk nh P l) (ho : ord.length ≤ 500) : ∃ Inv, Sound 2 nh P l ord Inv := by
  obtain ⟨a, b, c, d⟩ := lazy_begin hd.ris
  exact ⟨_, sound_one (al := 2) rfl aLazy_ok tLazy_ok hd ho a b c d fun h1 h2 => .inr (.inl ⟨rfl, h1, _, h2⟩)⟩
theorem sound_mark (hd : DOk nh P l) (ho : ord.length ≤ 500) : ∃ Inv, Sound 3 nh P l ord Inv := by
  obtain ⟨a, b, c, d⟩ := mark_begin hd.ris
  exact ⟨_, sound_one (al := 3) rfl aMark_ok tMark_ok hd ho a b c d fun h1 h2 => .inr (.inr (.inl ⟨rfl, h1, _, h2⟩))⟩
/-- what holds of the naive ones -/
structure NInv (P : Nat → PL) (W : Wd) : Prop where
  nw : NW (dds P) (fun v => (P v).length) W
  lk : ∀ i, W.lk i = false
  non : ∀ v, W.bg v = none → W.hs v = hd0
theorem NInv.go (hd : DOk nh P l) {W : Wd} {v : Nat} (h : NInv P W) (hi : W.ix v < (P v).length) : NInv P (W.go aNaive (dds P) v) := by
  have e1 : W.go1 aNaive (dds P) (fun v => (P v).length) v = W.go aNaive (dds P) v := by unfold Wd.go1; rw [if_pos hi]
  refine ⟨by rw [← e1]; exact h.nw.go1 hd.dees v, h.lk, fun v' hn => ?_⟩
  have hn' : upd W.bg v (if (aNaive.step W.s W.lk (W.hs v) (dds P v (W.ix v)).1 (dds P v (W.ix v)).2).over = true then none else some ((W.bg v).getD W.now)) v' = none := hn
  show upd W.hs v (aNaive.step W.s W.lk (W.hs v) (dds P v (W.ix v)).1 (dds P v (W.ix v)).2).nh v' = hd0
  by_cases e : v' = v
  · subst e
    rw [upd_same] at hn' ⊢
    split at hn'
    · rename_i ho
      unfold Rel.nh
      rw [if_pos ho]
    · cases hn'
  · rw [upd_other _ _ e] at hn' ⊢
    exact h.non v' hn'
theorem sound_naive (hd : DOk nh P l) (ho : ord.length ≤ 500) : ∃ Inv, Sound 4 nh P l ord Inv := by
  have hb : NW (dds P) (fun v => (P v).length) (Wd.begin_ l) := NW.begin_ _ _ hd.ris
  refine ⟨NInv P, ⟨hb, fun _ => rfl, fun _ _ => rfl⟩, fun h hv hi => h.go hd hi, ?_, fun h => h.nw.cor.listOk h.nw.kb, fun k hk => ?_, fun v hv => ?_⟩
  · intro W h v hi
    exact ⟨⟨hd.dees v _ hi, h.lk _, .inr (.inr (.inr ⟨rfl, h.nw.cor, h.nw.inv v⟩))⟩, h.non v⟩
  · have h1 := (runs_now (A := alg 4) (D := dds P) (len := fun v => (P v).length) (ordN nh ord) (Wd.begin_ l)).2
    have h2 := (rounds_now (A := alg 4) (D := dds P) (len := fun v => (P v).length) (nh := nh) ((Wd.begin_ l).runs (alg 4) (dds P) (fun v => (P v).length) (ordN nh ord)) k).2
    have h3 := ordN_len (nh := nh) (ord := ord)
    have h4 : (Wd.begin_ l).now = 0 := rfl
    have h5 : nh * k ≤ 4 * k := Nat.mul_le_mul_right _ hd.nh4
    omega
  · have := naive_end (nh := nh) hd.dees hd.l4 hd.out (hb.runs hd.dees (ordN nh ord)) (k := 875) (by omega) v
    have h6 : (((Wd.begin_ l).runs (alg 4) (dds P) (fun v => (P v).length) (ordN nh ord)).rounds (alg 4) (dds P) (fun v => (P v).length) nh 875).ix v = (P v).length := this
    omega
theorem sound_any {al : Nat} (hal : al = 1 ∨ al = 2 ∨ al = 3 ∨ al = 4) (hd : DOk nh P l) (ho : ord.length ≤ 500) : ∃ Inv, Sound al nh P l ord Inv := by
  rcases hal with rfl | rfl | rfl | rfl
  · exact sound_over hd ho
  · exact sound_lazy hd ho
  · exact sound_mark hd ho
  · exact sound_naive hd ho
/-- in the end each hand's deeds are over, and told -/
theorem wend_DL {al : Nat} {Inv : Wd → Prop} (hS : Sound al nh P l ord Inv) (hd : DOk nh P l) : (∀ v, (Wend al nh P l ord).ix v = (P v).length) ∧ ∀ v, DL (Wend al nh P l ord) v = (List.range (P v).length).map (tolD (Wend al nh P l ord) v) := by
  have hpb := wend_pb al nh P l ord
  have hix : ∀ v, (Wend al nh P l ord).ix v = (P v).length := fun v => by
    have h1 := hpb.ixl v
    by_cases hv : v < nh
    · have h2 := hS.fin v hv
      have h3 : ¬ (Wend al nh P l ord).ix v < (P v).length := h2
      omega
    · have := hd.out v (by omega)
      omega
  refine ⟨hix, fun v => ?_⟩
  unfold DL
  rw [hix v]
  cases hb : (Wend al nh P l ord).bg v with
  | none => simp
  | some b =>
    have := hpb.blt v b hb
    rw [hix v] at this
    omega
theorem wend_DLs {al : Nat} {Inv : Wd → Prop} (hS : Sound al nh P l ord Inv) (hd : DOk nh P l) : DLs (Wend al nh P l ord) nh = Tdl (Wend al nh P l ord) nh (fun v => (P v).length) := by
  unfold DLs Tdl
  congr 1
  funext v
  exact (wend_DL hS hd).2 v
end

end Go.Proofs.Ytfmdpmebllepeaa
