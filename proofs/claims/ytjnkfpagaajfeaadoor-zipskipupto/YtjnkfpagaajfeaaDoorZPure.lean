/-
  ZIPPED TREES AND ROWS: who stands above a place to the left is a stop on the way to it: plain mathematics. Nothing of the program but a key's height.
-/
import Derived.Test.YtjnkfpagaajfeaaDoorKPath0
import Derived.Test.YtjnkfpagaajfeaaDoorHPure
namespace Go.Proofs.YtjnkfpagaajfeaaDoor

/-- keys with their heights for ranks -/
def zpl (ks : List Int) : PL := ks.map fun k => (k, (ht k : Int))
theorem zpl_length (ks : List Int) : (zpl ks).length = ks.length := by simp [zpl]
theorem zpl_ky (ks : List Int) (i : Nat) (h : i < ks.length) : ky (zpl ks) i = ks[i] := by
  rw [ky_in (by rw [zpl_length]; exact h)]
  simp [zpl]
theorem zpl_dp (ks : List Int) (i : Nat) (h : i < ks.length) : dp (zpl ks) i = (ht ks[i] : Int) := by
  rw [dp_in (by rw [zpl_length]; exact h)]
  simp [zpl]

/-- none between it and key is higher -/
def Sfx (l : List Int) (key k : Int) : Prop := k ∈ l ∧ k < key ∧ ∀ j ∈ l, k < j → j < key → ht j ≤ ht k
theorem stTo_iff {l : List Int} (hR : Rise l) (key : Int) : ∀ m, m ≤ 12 → ∀ k, k ∈ (stTo l key m).1.map Prod.snd ↔ Sfx l key k ∧ 12 - m < ht k
  | 0, _ => fun k => by
    have := ht_le k
    simp only [stTo, List.map_nil, List.not_mem_nil, false_iff]
    rintro ⟨_, h⟩
    omega
  | m + 1, hm => fun k => by
    have ih := stTo_iff hR key m (by omega) k
    have hp := stTo_pin hR key m (by omega)
    show k ∈ ((stTo l key m).1 ++ (pas (rowL l (11 - m)) (stTo l key m).2 key).map (fun k => ((11 : Int) - m, k))).map Prod.snd ↔ _
    generalize (stTo l key m).1 = p at ih hp ⊢
    generalize (stTo l key m).2 = a at ih hp ⊢
    have e : (p ++ (pas (rowL l (11 - m)) a key).map (fun k => ((11 : Int) - m, k))).map Prod.snd = p.map Prod.snd ++ pas (rowL l (11 - m)) a key := by simp [List.map_map, Function.comp_def]
    rw [e, List.mem_append, ih, pas_mem]
    have hrow : k ∈ rowL l (11 - m) ↔ k ∈ l ∧ 11 - m < ht k := by unfold rowL; rw [List.mem_filter]; simp
    rw [hrow]
    constructor
    · rintro (⟨h1, h2⟩ | ⟨⟨h1, h2⟩, h3, h4⟩)
      · exact ⟨h1, by omega⟩
      · have hk : ¬ 12 - m < ht k := fun h => by have := hp.met k h1 h4 h; omega
        refine ⟨⟨h1, h4, fun j hj hkj hjk => ?_⟩, by omega⟩
        apply Classical.byContradiction
        intro hlt
        have := hp.met j hj hjk (by omega)
        omega
    · rintro ⟨h1, h2⟩
      by_cases h3 : 12 - m < ht k
      · exact .inl ⟨h1, h3⟩
      · refine .inr ⟨⟨h1.1, by omega⟩, ?_, h1.2.1⟩
        rcases hp.last with ⟨_, ha⟩ | ⟨q, r, hq⟩
        · have := hR.bd k h1.1
          omega
        · have hs := hp.each (r, a) (by rw [hq]; simp)
          obtain ⟨s1, s2, s3, _, s5⟩ := hs
          simp only at s1 s2 s3 s5
          apply Classical.byContradiction
          intro hle
          by_cases hka : k = a
          · subst hka
            omega
          · have := h1.2.2 a s2 (by omega) s3
            omega
theorem stops_iff {l : List Int} (hR : Rise l) (key k : Int) : k ∈ (stops l key).map Prod.snd ↔ Sfx l key k := by
  have := stTo_iff hR key 12 (Nat.le_refl _) k
  have hp := ht_pos k
  unfold stops
  rw [this]
  constructor
  · exact fun h => h.1
  · exact fun h => ⟨h, by omega⟩

/-- whoever stands above stands higher -/
theorem anc_deep {t : Tr} {l : PL} (h : Hp t l) : ∀ (n : Nat) (u i : Nat), (dp (t.sp 0) i).toNat ≤ n → u < t.size → i < t.size → u ≠ i → Anc l u i → dp (t.sp 0) u < dp (t.sp 0) i := by
  intro n
  induction n with
  | zero =>
    intro u i hn hu hi hne ha
    rcases par_hp h hi with ⟨_, hno⟩ | ⟨r, _, hr⟩
    · exact absurd (hno u hu ha) hne
    · have h1 := hr.deep 0
      have h2 := sp_ge t 0 r hr.lt
      omega
  | succ n ih =>
    intro u i hn hu hi hne ha
    rcases par_hp h hi with ⟨_, hno⟩ | ⟨r, _, hr⟩
    · exact absurd (hno u hu ha) hne
    · have h1 := hr.deep 0
      have h2 := sp_ge t 0 r hr.lt
      by_cases hur : u = r
      · subst hur
        exact h1
      · have := ih u r (by omega) hu hr.lt hur (hr.all u hu hne ha)
        omega
theorem out_total (l : PL) (u m : Nat) (h : u ≠ m) : Out l u m ∨ Out l m u := by
  unfold Out
  omega
theorem anc_next {l : PL} {u m : Nat} (h : Out l u m) (h1 : m = u + 1 ∨ u = m + 1) : Anc l u m := by
  intro x h2 h3 h4
  have : x = m := by omega
  rw [this]
  exact h
/-- above the lower one of both neighbours of a place: just those that none between outranks -/
theorem gap_left {ks : List Int} {p at_ i : Nat} (hp : p ≤ ks.length) (hi : i < p) (hat : (at_ + 1 = p) ∨ (at_ = p ∧ p < ks.length ∧ Out (zpl ks) (p - 1) p)) :
    Anc (zpl ks) i at_ ↔ ∀ m (hm : m < ks.length), i < m → m < p → ht (ks[m]'hm) ≤ ht (ks[i]'(by omega)) := by
  have hd : ∀ m (hm : m < ks.length), i < m → (Out (zpl ks) i m ↔ ht (ks[m]'hm) ≤ ht (ks[i]'(by omega))) := by
    intro m hm him
    unfold Out
    rw [zpl_dp ks m hm, zpl_dp ks i (by omega)]
    omega
  rcases hat with hat | ⟨rfl, hpl, ho⟩
  · constructor
    · intro h m hm h1 h2
      exact (hd m hm h1).1 (h m (by omega) (by omega) (by omega))
    · intro h m h1 h2 h3
      exact (hd m (by omega) (by omega)).2 (h m (by omega) (by omega) (by omega))
  · constructor
    · intro h m hm h1 h2
      exact (hd m hm h1).1 (h m (by omega) (by omega) (by omega))
    · intro h m h1 h2 h3
      by_cases hma : m = at_
      · subst hma
        by_cases hi1 : i = m - 1
        · rw [hi1]
          exact ho
        · have h4 := (hd (m - 1) (by omega) (by omega)).2 (h (m - 1) (by omega) (by omega) (by omega))
          exact Out.trans h4 ho
      · exact (hd m (by omega) (by omega)).2 (h m (by omega) (by omega) (by omega))

/-- from k upward: those whose place is ahead of p -/
inductive Chn (S : PL) (p : Nat) : Int → List Nat → Prop
  | top : Chn S p (-1) []
  | step {i : Nat} {L : List Nat} : Chn S p (par S i) L → Chn S p i (if i < p then i :: L else L)
theorem chn_top {S : PL} {p : Nat} {L : List Nat} (h : Chn S p (-1) L) : L = [] := by
  generalize hk : (-1 : Int) = k at h
  cases h with
  | top => rfl
  | step _ => omega
theorem chn_step {S : PL} {p i : Nat} {L : List Nat} (h : Chn S p (i : Int) L) : ∃ L', Chn S p (par S i) L' ∧ L = if i < p then i :: L' else L' := by
  generalize hk : (i : Int) = k at h
  cases h with
  | top => omega
  | step h =>
    rename_i j L'
    obtain rfl : i = j := by omega
    exact ⟨L', h, rfl⟩
theorem chn_has {t : Tr} {l : PL} (h : Hp t l) (p : Nat) : ∀ (n i : Nat), (dp (t.sp 0) i).toNat ≤ n → i < t.size → ∃ L, Chn (t.sp 0) p (i : Int) L := by
  intro n
  induction n with
  | zero =>
    intro i hn hi
    rcases par_hp h hi with ⟨e, _⟩ | ⟨r, e, hr⟩
    · exact ⟨_, .step (by rw [e]; exact .top)⟩
    · have h1 := hr.deep 0
      have h2 := sp_ge t 0 r hr.lt
      omega
  | succ n ih =>
    intro i hn hi
    rcases par_hp h hi with ⟨e, _⟩ | ⟨r, e, hr⟩
    · exact ⟨_, .step (by rw [e]; exact .top)⟩
    · have h1 := hr.deep 0
      have h2 := sp_ge t 0 r hr.lt
      obtain ⟨L, hL⟩ := ih r (by omega) hr.lt
      exact ⟨_, .step (by rw [e]; exact hL)⟩
theorem chn_spec {t : Tr} {l : PL} {p at_ : Nat} (h : Hp t l) (hat : p ≤ at_ + 1) : ∀ (n i : Nat) (L : List Nat), (dp (t.sp 0) i).toNat ≤ n → i < t.size → Anc l i at_ → Chn (t.sp 0) p (i : Int) L → L.Pairwise (· > ·) ∧ ∀ u, u ∈ L ↔ u < t.size ∧ u < p ∧ Anc l u i := by
  intro n
  induction n with
  | zero =>
    intro i L hn hi ha hL
    rcases par_hp h hi with ⟨e, hno⟩ | ⟨r, e, hr⟩
    · obtain ⟨L', h1, rfl⟩ := chn_step hL
      rw [e] at h1
      have := chn_top h1
      subst this
      constructor
      · split <;> simp
      · intro u
        constructor
        · intro hu
          split at hu
          · simp only [List.mem_singleton] at hu
            subst hu
            exact ⟨hi, by assumption, Anc.refl _ _⟩
          · simp at hu
        · rintro ⟨h2, h3, h4⟩
          have := hno u h2 h4
          subst this
          rw [if_pos h3]
          simp
    · have h1 := hr.deep 0
      have h2 := sp_ge t 0 r hr.lt
      omega
  | succ n ih =>
    intro i L hn hi ha hL
    rcases par_hp h hi with ⟨e, hno⟩ | ⟨r, e, hr⟩
    · obtain ⟨L', h1, rfl⟩ := chn_step hL
      rw [e] at h1
      have := chn_top h1
      subst this
      constructor
      · split <;> simp
      · intro u
        constructor
        · intro hu
          split at hu
          · simp only [List.mem_singleton] at hu
            subst hu
            exact ⟨hi, by assumption, Anc.refl _ _⟩
          · simp at hu
        · rintro ⟨h2, h3, h4⟩
          have := hno u h2 h4
          subst this
          rw [if_pos h3]
          simp
    · obtain ⟨L', h1, rfl⟩ := chn_step hL
      rw [e] at h1
      have hd := hr.deep 0
      have hd2 := sp_ge t 0 r hr.lt
      obtain ⟨hp1, hp2⟩ := ih r L' (by omega) hr.lt (hr.anc.trans ha) h1
      constructor
      · split
        · rename_i hip
          refine List.pairwise_cons.2 ⟨fun u hu => ?_, hp1⟩
          obtain ⟨u1, u2, u3⟩ := (hp2 u).1 hu
          have hui : u ≠ i := by
            intro e'
            subst e'
            have h5 := hr.anc.out hr.ne
            have h6 := u3.out (fun e' => hr.ne e'.symm)
            exact h5.asymm h6
          have hanc : Anc l u i := u3.trans hr.anc
          show u < i
          apply Classical.byContradiction
          intro hge
          have o1 : Out l i u := ha u (by omega) (by omega) hui
          exact o1.asymm (hanc.out hui)
        · exact hp1
      · intro u
        have hmem : u ∈ (if i < p then i :: L' else L') ↔ (u = i ∧ i < p) ∨ u ∈ L' := by
          split
          · rename_i hip
            simp [hip]
          · rename_i hip
            simp [hip]
        rw [hmem, hp2]
        constructor
        · rintro (⟨rfl, h2⟩ | ⟨h2, h3, h4⟩)
          · exact ⟨hi, h2, Anc.refl _ _⟩
          · exact ⟨h2, h3, h4.trans hr.anc⟩
        · rintro ⟨h2, h3, h4⟩
          by_cases hui : u = i
          · exact .inl ⟨hui, by omega⟩
          · exact .inr ⟨h2, h3, hr.all u h2 hui h4⟩
/-- those that stand above a place and are less are the stops of the way to it -/
theorem zip_skip {ks : List Int} {key : Int} {t : Tr} {p at_ : Nat} {L : List Nat} (hR : Rise ks) (ht : Hp t (zpl ks)) (hp : p ≤ ks.length) (hlt : ∀ i (hi : i < ks.length), i < p ↔ ks[i] < key) (hl : at_ < ks.length)
    (hat : (at_ + 1 = p) ∨ (at_ = p ∧ (0 < p → Out (zpl ks) (p - 1) p))) (hL : Chn (t.sp 0) p (at_ : Int) L) : L.map (fun i => ks[i]?.getD 0) = ((stops ks key).map Prod.snd).reverse := by
  have hs : t.size = ks.length := by rw [← hp_len ht, zpl_length]
  obtain ⟨h1, h2⟩ := chn_spec ht (show p ≤ at_ + 1 by omega) _ at_ L (Nat.le_refl _) (by omega) (Anc.refl _ _) hL
  have hat2 : 0 < p → (at_ + 1 = p) ∨ (at_ = p ∧ p < ks.length ∧ Out (zpl ks) (p - 1) p) := by
    intro h0
    rcases hat with h | ⟨h, h'⟩
    · exact .inl h
    · exact .inr ⟨h, by omega, h' h0⟩
  have hlt2 : ∀ u ∈ L, u < ks.length := fun u hu => by have := (h2 u).1 hu; omega
  have hmono : ∀ i j, i < j → j < ks.length → ks[i]?.getD 0 < ks[j]?.getD 0 := by
    intro i j hij hj
    rw [List.getElem?_eq_getElem hj, List.getElem?_eq_getElem (show i < ks.length by omega)]
    exact List.pairwise_iff_getElem.1 hR.pw i j (by omega) hj hij
  have key1 : (L.map (fun i => ks[i]?.getD 0)).reverse = (stops ks key).map Prod.snd := by
    refine up_ext ?_ ?_ ?_
    · show List.Pairwise _ _
      rw [List.pairwise_reverse, List.pairwise_map]
      refine List.Pairwise.imp_of_mem ?_ h1
      intro a b ha hb hab
      exact hmono b a hab (hlt2 a ha)
    · show List.Pairwise _ _
      rw [List.pairwise_map]
      exact (stops_pin hR key).pw.imp fun h => h.1
    · intro x
      rw [List.mem_reverse, stops_iff hR, List.mem_map]
      constructor
      · rintro ⟨i, hi, rfl⟩
        obtain ⟨h3, h4, h5⟩ := (h2 i).1 hi
        have hil : i < ks.length := by omega
        rw [List.getElem?_eq_getElem hil]
        simp only [Option.getD_some]
        have hg := (gap_left hp h4 (hat2 (by omega))).1 h5
        refine ⟨List.getElem_mem hil, (hlt i hil).1 h4, fun j hj hij hjk => ?_⟩
        obtain ⟨m, hm, rfl⟩ := List.getElem_of_mem hj
        have hmp := (hlt m hm).2 hjk
        refine hg m hm ?_ hmp
        apply Classical.byContradiction
        intro hle
        by_cases e : m = i
        · subst e
          omega
        · have := List.pairwise_iff_getElem.1 hR.pw m i hm hil (by omega)
          omega
      · rintro ⟨hx, hxk, hsx⟩
        obtain ⟨i, hi, rfl⟩ := List.getElem_of_mem hx
        have hip := (hlt i hi).2 hxk
        refine ⟨i, (h2 i).2 ⟨by omega, hip, ?_⟩, by rw [List.getElem?_eq_getElem hi]; rfl⟩
        refine (gap_left hp hip (hat2 (by omega))).2 ?_
        intro m hm h3 h4
        exact hsx _ (List.getElem_mem hm) (List.pairwise_iff_getElem.1 hR.pw i m hi hm h3) ((hlt m hm).1 h4)
  rw [← key1, List.reverse_reverse]
/-- of two neighbours the one that ranks lower stands lower -/
theorem next_deep {t : Tr} {l : PL} (h : Hp t l) {p : Nat} (h0 : 0 < p) (hp : p < l.length) : (Out l (p - 1) p ∧ dp (t.sp 0) (p - 1) < dp (t.sp 0) p) ∨ (Out l p (p - 1) ∧ dp (t.sp 0) p < dp (t.sp 0) (p - 1)) := by
  have hs := hp_len h
  rcases out_total l (p - 1) p (by omega) with ho | ho
  · exact .inl ⟨ho, anc_deep h _ (p - 1) p (Nat.le_refl _) (by omega) (by omega) (by omega) (anc_next ho (.inl (by omega)))⟩
  · exact .inr ⟨ho, anc_deep h _ p (p - 1) (Nat.le_refl _) (by omega) (by omega) (by omega) (anc_next ho (.inr (by omega)))⟩

end Go.Proofs.YtjnkfpagaajfeaaDoor
