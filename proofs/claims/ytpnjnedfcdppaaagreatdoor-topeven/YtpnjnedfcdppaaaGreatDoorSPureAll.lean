/-
  Joined texts: YtpnjnedfcdppaaaGreatDoorZPure, YtpnjnedfcdppaaaGreatDoorSPure.
-/
import Derived.Test.YtpnjnedfcdppaaaGreatDoorKPath0All
import Derived.Test.YtpnjnedfcdppaaaGreatDoorHPureAll
/-
  ZIPPED TREES AND ROWS: who stands above a place to the left is a stop on the way to it: plain mathematics. Nothing of the program but a key's height.
-/
namespace Go.Proofs.YtpnjnedfcdppaaaGreatDoor

/-- keys with their heights for ranks -/
def zpl (ks : List Int) : PL := ks.map fun k => (k, (ht k : Int))
theorem zpl_length (ks : List Int) : (zpl ks).length = ks.length := by simp [zpl]
theorem zpl_ky (ks : List Int) (i : Nat) (h : i < ks.length) : ky (zpl ks) i = ks[i] := by
  rw [ky_in (by rw [zpl_length]; exact h)]
  simp [zpl]
theorem zpl_dp (ks : List Int) (i : Nat) (h : i < ks.length) : dp (zpl ks) i = (ht ks[i] : Int) := by
  rw [dp_in (by rw [zpl_length]; exact h)]
  simp [zpl]

/-- none between it and key is higher -/
def Sfx (l : List Int) (key k : Int) : Prop := k ∈ l ∧ k < key ∧ ∀ j ∈ l, k < j → j < key → ht j ≤ ht k
theorem stTo_iff {l : List Int} (hR : Rise l) (key : Int) : ∀ m, m ≤ 12 → ∀ k, k ∈ (stTo l key m).1.map Prod.snd ↔ Sfx l key k ∧ 12 - m < ht k
  | 0, _ => fun k => by
    have := ht_le k
    simp only [stTo, List.map_nil, List.not_mem_nil, false_iff]
    rintro ⟨_, h⟩
    omega
  | m + 1, hm => fun k => by
    have ih := stTo_iff hR key m (by omega) k
    have hp := stTo_pin hR key m (by omega)
    show k ∈ ((stTo l key m).1 ++ (pas (rowL l (11 - m)) (stTo l key m).2 key).map (fun k => ((11 : Int) - m, k))).map Prod.snd ↔ _
    generalize (stTo l key m).1 = p at ih hp ⊢
    generalize (stTo l key m).2 = a at ih hp ⊢
    have e : (p ++ (pas (rowL l (11 - m)) a key).map (fun k => ((11 : Int) - m, k))).map Prod.snd = p.map Prod.snd ++ pas (rowL l (11 - m)) a key := by simp [List.map_map, Function.comp_def]
    rw [e, List.mem_append, ih, pas_mem]
    have hrow : k ∈ rowL l (11 - m) ↔ k ∈ l ∧ 11 - m < ht k := by unfold rowL; rw [List.mem_filter]; simp
    rw [hrow]
    constructor
    · rintro (⟨h1, h2⟩ | ⟨⟨h1, h2⟩, h3, h4⟩)
      · exact ⟨h1, by omega⟩
      · have hk : ¬ 12 - m < ht k := fun h => by have := hp.met k h1 h4 h; omega
        refine ⟨⟨h1, h4, fun j hj hkj hjk => ?_⟩, by omega⟩
        apply Classical.byContradiction
        intro hlt
        have := hp.met j hj hjk (by omega)
        omega
    · rintro ⟨h1, h2⟩
      by_cases h3 : 12 - m < ht k
      · exact .inl ⟨h1, h3⟩
      · refine .inr ⟨⟨h1.1, by omega⟩, ?_, h1.2.1⟩
        rcases hp.last with ⟨_, ha⟩ | ⟨q, r, hq⟩
        · have := hR.bd k h1.1
          omega
        · have hs := hp.each (r, a) (by rw [hq]; simp)
          obtain ⟨s1, s2, s3, _, s5⟩ := hs
          simp only at s1 s2 s3 s5
          apply Classical.byContradiction
          intro hle
          by_cases hka : k = a
          · subst hka
            omega
          · have := h1.2.2 a s2 (by omega) s3
            omega
theorem stops_iff {l : List Int} (hR : Rise l) (key k : Int) : k ∈ (stops l key).map Prod.snd ↔ Sfx l key k := by
  have := stTo_iff hR key 12 (Nat.le_refl _) k
  have hp := ht_pos k
  unfold stops
  rw [this]
  constructor
  · exact fun h => h.1
  · exact fun h => ⟨h, by omega⟩

/-- whoever stands above stands higher -/
theorem anc_deep {t : Tr} {l : PL} (h : Hp t l) : ∀ (n : Nat) (u i : Nat), (dp (t.sp 0) i).toNat ≤ n → u < t.size → i < t.size → u ≠ i → Anc l u i → dp (t.sp 0) u < dp (t.sp 0) i := by
  intro n
  induction n with
  | zero =>
    intro u i hn hu hi hne ha
    rcases par_hp h hi with ⟨_, hno⟩ | ⟨r, _, hr⟩
    · exact absurd (hno u hu ha) hne
    · have h1 := hr.deep 0
      have h2 := sp_ge t 0 r hr.lt
      omega
  | succ n ih =>
    intro u i hn hu hi hne ha
    rcases par_hp h hi with ⟨_, hno⟩ | ⟨r, _, hr⟩
    · exact absurd (hno u hu ha) hne
    · have h1 := hr.deep 0
      have h2 := sp_ge t 0 r hr.lt
      by_cases hur : u = r
      · subst hur
        exact h1
      · have := ih u r (by omega) hu hr.lt hur (hr.all u hu hne ha)
        omega
theorem out_total (l : PL) (u m : Nat) (h : u ≠ m) : Out l u m ∨ Out l m u := by
  unfold Out
  omega
theorem anc_next {l : PL} {u m : Nat} (h : Out l u m) (h1 : m = u + 1 ∨ u = m + 1) : Anc l u m := by
  intro x h2 h3 h4
  have : x = m := by omega
  rw [this]
  exact h
/-- above the lower one of both neighbours of a place: just those that none between outranks -/
theorem gap_left {ks : List Int} {p at_ i : Nat} (hp : p ≤ ks.length) (hi : i < p) (hat : (at_ + 1 = p) ∨ (at_ = p ∧ p < ks.length ∧ Out (zpl ks) (p - 1) p)) :
    Anc (zpl ks) i at_ ↔ ∀ m (hm : m < ks.length), i < m → m < p → ht (ks[m]'hm) ≤ ht (ks[i]'(by omega)) := by
  have hd : ∀ m (hm : m < ks.length), i < m → (Out (zpl ks) i m ↔ ht (ks[m]'hm) ≤ ht (ks[i]'(by omega))) := by
    intro m hm him
    unfold Out
    rw [zpl_dp ks m hm, zpl_dp ks i (by omega)]
    omega
  rcases hat with hat | ⟨rfl, hpl, ho⟩
  · constructor
    · intro h m hm h1 h2
      exact (hd m hm h1).1 (h m (by omega) (by omega) (by omega))
    · intro h m h1 h2 h3
      exact (hd m (by omega) (by omega)).2 (h m (by omega) (by omega) (by omega))
  · constructor
    · intro h m hm h1 h2
      exact (hd m hm h1).1 (h m (by omega) (by omega) (by omega))
    · intro h m h1 h2 h3
      by_cases hma : m = at_
      · subst hma
        by_cases hi1 : i = m - 1
        · rw [hi1]
          exact ho
        · have h4 := (hd (m - 1) (by omega) (by omega)).2 (h (m - 1) (by omega) (by omega) (by omega))
          exact Out.trans h4 ho
      · exact (hd m (by omega) (by omega)).2 (h m (by omega) (by omega) (by omega))

/-- from k upward: those whose place is ahead of p -/
inductive Chn (S : PL) (p : Nat) : Int → List Nat → Prop
  | top : Chn S p (-1) []
  | step {i : Nat} {L : List Nat} : Chn S p (par S i) L → Chn S p i (if i < p then i :: L else L)
theorem chn_top {S : PL} {p : Nat} {L : List Nat} (h : Chn S p (-1) L) : L = [] := by
  generalize hk : (-1 : Int) = k at h
  cases h with
  | top => rfl
  | step _ => omega
theorem chn_step {S : PL} {p i : Nat} {L : List Nat} (h : Chn S p (i : Int) L) : ∃ L', Chn S p (par S i) L' ∧ L = if i < p then i :: L' else L' := by
  generalize hk : (i : Int) = k at h
  cases h with
  | top => omega
  | step h =>
    rename_i j L'
    obtain rfl : i = j := by omega
    exact ⟨L', h, rfl⟩
theorem chn_has {t : Tr} {l : PL} (h : Hp t l) (p : Nat) : ∀ (n i : Nat), (dp (t.sp 0) i).toNat ≤ n → i < t.size → ∃ L, Chn (t.sp 0) p (i : Int) L := by
  intro n
  induction n with
  | zero =>
    intro i hn hi
    rcases par_hp h hi with ⟨e, _⟩ | ⟨r, e, hr⟩
    · exact ⟨_, .step (by rw [e]; exact .top)⟩
    · have h1 := hr.deep 0
      have h2 := sp_ge t 0 r hr.lt
      omega
  | succ n ih =>
    intro i hn hi
    rcases par_hp h hi with ⟨e, _⟩ | ⟨r, e, hr⟩
    · exact ⟨_, .step (by rw [e]; exact .top)⟩
    · have h1 := hr.deep 0
      have h2 := sp_ge t 0 r hr.lt
      obtain ⟨L, hL⟩ := ih r (by omega) hr.lt
      exact ⟨_, .step (by rw [e]; exact hL)⟩
theorem chn_spec {t : Tr} {l : PL} {p at_ : Nat} (h : Hp t l) (hat : p ≤ at_ + 1) : ∀ (n i : Nat) (L : List Nat), (dp (t.sp 0) i).toNat ≤ n → i < t.size → Anc l i at_ → Chn (t.sp 0) p (i : Int) L → L.Pairwise (· > ·) ∧ ∀ u, u ∈ L ↔ u < t.size ∧ u < p ∧ Anc l u i := by
  intro n
  induction n with
  | zero =>
    intro i L hn hi ha hL
    rcases par_hp h hi with ⟨e, hno⟩ | ⟨r, e, hr⟩
    · obtain ⟨L', h1, rfl⟩ := chn_step hL
      rw [e] at h1
      have := chn_top h1
      subst this
      constructor
      · split <;> simp
      · intro u
        constructor
        · intro hu
          split at hu
          · simp only [List.mem_singleton] at hu
            subst hu
            exact ⟨hi, by assumption, Anc.refl _ _⟩
          · simp at hu
        · rintro ⟨h2, h3, h4⟩
          have := hno u h2 h4
          subst this
          rw [if_pos h3]
          simp
    · have h1 := hr.deep 0
      have h2 := sp_ge t 0 r hr.lt
      omega
  | succ n ih =>
    intro i L hn hi ha hL
    rcases par_hp h hi with ⟨e, hno⟩ | ⟨r, e, hr⟩
    · obtain ⟨L', h1, rfl⟩ := chn_step hL
      rw [e] at h1
      have := chn_top h1
      subst this
      constructor
      · split <;> simp
      · intro u
        constructor
        · intro hu
          split at hu
          · simp only [List.mem_singleton] at hu
            subst hu
            exact ⟨hi, by assumption, Anc.refl _ _⟩
          · simp at hu
        · rintro ⟨h2, h3, h4⟩
          have := hno u h2 h4
          subst this
          rw [if_pos h3]
          simp
    · obtain ⟨L', h1, rfl⟩ := chn_step hL
      rw [e] at h1
      have hd := hr.deep 0
      have hd2 := sp_ge t 0 r hr.lt
      obtain ⟨hp1, hp2⟩ := ih r L' (by omega) hr.lt (hr.anc.trans ha) h1
      constructor
      · split
        · rename_i hip
          refine List.pairwise_cons.2 ⟨fun u hu => ?_, hp1⟩
          obtain ⟨u1, u2, u3⟩ := (hp2 u).1 hu
          have hui : u ≠ i := by
            intro e'
            subst e'
            have h5 := hr.anc.out hr.ne
            have h6 := u3.out (fun e' => hr.ne e'.symm)
            exact h5.asymm h6
          have hanc : Anc l u i := u3.trans hr.anc
          show u < i
          apply Classical.byContradiction
          intro hge
          have o1 : Out l i u := ha u (by omega) (by omega) hui
          exact o1.asymm (hanc.out hui)
        · exact hp1
      · intro u
        have hmem : u ∈ (if i < p then i :: L' else L') ↔ (u = i ∧ i < p) ∨ u ∈ L' := by
          split
          · rename_i hip
            simp [hip]
          · rename_i hip
            simp [hip]
        rw [hmem, hp2]
        constructor
        · rintro (⟨rfl, h2⟩ | ⟨h2, h3, h4⟩)
          · exact ⟨hi, h2, Anc.refl _ _⟩
          · exact ⟨h2, h3, h4.trans hr.anc⟩
        · rintro ⟨h2, h3, h4⟩
          by_cases hui : u = i
          · exact .inl ⟨hui, by omega⟩
          · exact .inr ⟨h2, h3, hr.all u h2 hui h4⟩
/-- those that stand above a place and are less are the stops of the way to it -/
theorem zip_skip {ks : List Int} {key : Int} {t : Tr} {p at_ : Nat} {L : List Nat} (hR : Rise ks) (ht : Hp t (zpl ks)) (hp : p ≤ ks.length) (hlt : ∀ i (hi : i < ks.length), i < p ↔ ks[i] < key) (hl : at_ < ks.length)
    (hat : (at_ + 1 = p) ∨ (at_ = p ∧ (0 < p → Out (zpl ks) (p - 1) p))) (hL : Chn (t.sp 0) p (at_ : Int) L) : L.map (fun i => ks[i]?.getD 0) = ((stops ks key).map Prod.snd).reverse := by
  have hs : t.size = ks.length := by rw [← hp_len ht, zpl_length]
  obtain ⟨h1, h2⟩ := chn_spec ht (show p ≤ at_ + 1 by omega) _ at_ L (Nat.le_refl _) (by omega) (Anc.refl _ _) hL
  have hat2 : 0 < p → (at_ + 1 = p) ∨ (at_ = p ∧ p < ks.length ∧ Out (zpl ks) (p - 1) p) := by
    intro h0
    rcases hat with h | ⟨h, h'⟩
    · exact .inl h
    · exact .inr ⟨h, by omega, h' h0⟩
  have hlt2 : ∀ u ∈ L, u < ks.length := fun u hu => by have := (h2 u).1 hu; omega
  have hmono : ∀ i j, i < j → j < ks.length → ks[i]?.getD 0 < ks[j]?.getD 0 := by
    intro i j hij hj
    rw [List.getElem?_eq_getElem hj, List.getElem?_eq_getElem (show i < ks.length by omega)]
    exact List.pairwise_iff_getElem.1 hR.pw i j (by omega) hj hij
  have key1 : (L.map (fun i => ks[i]?.getD 0)).reverse = (stops ks key).map Prod.snd := by
    refine up_ext ?_ ?_ ?_
    · show List.Pairwise _ _
      rw [List.pairwise_reverse, List.pairwise_map]
      refine List.Pairwise.imp_of_mem ?_ h1
      intro a b ha hb hab
      exact hmono b a hab (hlt2 a ha)
    · show List.Pairwise _ _
      rw [List.pairwise_map]
      exact (stops_pin hR key).pw.imp fun h => h.1
    · intro x
      rw [List.mem_reverse, stops_iff hR, List.mem_map]
      constructor
      · rintro ⟨i, hi, rfl⟩
        obtain ⟨h3, h4, h5⟩ := (h2 i).1 hi
        have hil : i < ks.length := by omega
        rw [List.getElem?_eq_getElem hil]
        simp only [Option.getD_some]
        have hg := (gap_left hp h4 (hat2 (by omega))).1 h5
        refine ⟨List.getElem_mem hil, (hlt i hil).1 h4, fun j hj hij hjk => ?_⟩
        obtain ⟨m, hm, rfl⟩ := List.getElem_of_mem hj
        have hmp := (hlt m hm).2 hjk
        refine hg m hm ?_ hmp
        apply Classical.byContradiction
        intro hle
        by_cases e : m = i
        · subst e
          omega
        · have := List.pairwise_iff_getElem.1 hR.pw m i hm hil (by omega)
          omega
      · rintro ⟨hx, hxk, hsx⟩
        obtain ⟨i, hi, rfl⟩ := List.getElem_of_mem hx
        have hip := (hlt i hi).2 hxk
        refine ⟨i, (h2 i).2 ⟨by omega, hip, ?_⟩, by rw [List.getElem?_eq_getElem hi]; rfl⟩
        refine (gap_left hp hip (hat2 (by omega))).2 ?_
        intro m hm h3 h4
        exact hsx _ (List.getElem_mem hm) (List.pairwise_iff_getElem.1 hR.pw i m hi hm h3) ((hlt m hm).1 h4)
  rw [← key1, List.reverse_reverse]
/-- of two neighbours the one that ranks lower stands lower -/
theorem next_deep {t : Tr} {l : PL} (h : Hp t l) {p : Nat} (h0 : 0 < p) (hp : p < l.length) : (Out l (p - 1) p ∧ dp (t.sp 0) (p - 1) < dp (t.sp 0) p) ∨ (Out l p (p - 1) ∧ dp (t.sp 0) p < dp (t.sp 0) (p - 1)) := by
  have hs := hp_len h
  rcases out_total l (p - 1) p (by omega) with ho | ho
  · exact .inl ⟨ho, anc_deep h _ (p - 1) p (Nat.le_refl _) (by omega) (by omega) (by omega) (anc_next ho (.inl (by omega)))⟩
  · exact .inr ⟨ho, anc_deep h _ p (p - 1) (Nat.le_refl _) (by omega) (by omega) (by omega) (anc_next ho (.inr (by omega)))⟩

end Go.Proofs.YtpnjnedfcdppaaaGreatDoor

/-
  TURNS THERE AND BACK; THE WAY TO A ROW: plain mathematics. Nothing of the program.
-/
namespace Go.Proofs.YtpnjnedfcdppaaaGreatDoor

theorem shf_pt (l : PL) (x y : Nat) (by_ : Int) (hxy : x ≤ y) (hy : y ≤ l.length) (i : Nat) : ky (shf l x y by_) i = ky l i ∧ (dp (shf l x y by_) i = dp l i ∨ dp (shf l x y by_) i = dp l i + by_) := by
  have he : l = l.take x ++ (l.drop x).take (y - x) ++ l.drop y := by
    conv => lhs; rw [← List.take_append_drop x l, ← List.take_append_drop (y - x) (l.drop x), List.drop_drop]
    rw [show x + (y - x) = y by omega, List.append_assoc]
  have hX : (l.take x).length = x := by simp; omega
  have hY : ((l.drop x).take (y - x)).length = y - x := by simp; omega
  have hs := shf_at (by_ := by_) he hX.symm (y := y) (by rw [hX, hY]; omega)
  rw [hs]
  generalize l.take x = X at *
  generalize (l.drop x).take (y - x) = Y at *
  generalize l.drop y = Z at *
  rw [he]
  rcases Nat.lt_or_ge i x with h1 | h1
  · rw [List.append_assoc, List.append_assoc, ky_left (by omega), ky_left (by omega), dp_left (by omega), dp_left (by omega)]
    exact ⟨rfl, .inl rfl⟩
  · rcases Nat.lt_or_ge i y with h2 | h2
    · rw [ky_in3 _ _ _ _ (by omega) (by simp; omega), ky_in3 _ _ _ _ (by omega) (by omega), dp_in3 _ _ _ _ (by omega) (by simp; omega), dp_in3 _ _ _ _ (by omega) (by omega)]
      have hi : i - X.length < Y.length := by omega
      simp only [ky, dp, List.getElem?_map, List.getElem?_eq_getElem hi, Option.map_some, Option.getD_some]
      exact ⟨trivial, .inr trivial⟩
    · rw [ky_right (by simp; omega), ky_right (by simp; omega), dp_right (by simp; omega), dp_right (by simp; omega)]
      simp

theorem isTree_same {l m : PL} (h : IsTree l) (hl : m.length = l.length) (hk : ∀ i, ky m i = ky l i) (ht : ∃ t : Tr, m = t.sp 0) : IsTree m := by
  refine ⟨by rw [hl]; exact h.1, ?_, ht⟩
  intro i hi
  rw [hk, hk]
  exact h.2.1 i (by omega)

/-- all of what Turn does -/
structure Turned (l s : PL) (i j : Nat) : Prop where
  lt : j < l.length
  ne : j ≠ i
  fr : frR l j ≤ i
  to : i < toR l j
  len : s.length = l.length
  keys : ∀ x, ky s x = ky l x
  near : ∀ x, dp s x ≤ dp l x + 1 ∧ dp l x - 1 ≤ dp s x
  tree : IsTree s
  low : dp s j ≠ 0
  back : turnL s j = l
theorem turned_of {l : PL} (h : IsTree l) {i : Nat} (hi : i < l.length) (hd : dp l i ≠ 0) : ∃ j : Nat, par l i = j ∧ Turned l (turnL l i) i j := by
  obtain ⟨t, ht⟩ := h.2.2
  rcases above_of ht hi hd with ⟨j, d, a, k, b, p, c, pre, post, hL⟩ | ⟨j, d, a, k, b, p, c, pre, post, hR⟩
  · refine ⟨j, hL.par_i, ?_⟩
    have hs := hL.turn
    have hj := hL.jdx
    have hix := hL.idx
    have hlen := hL.at_j.len
    have hp := hL.at_j.part
    simp only [Tr.size] at hlen hp
    have hjl : j < l.length := by omega
    have hRR : RR (turnL l i) i j d a k b p c pre post := ⟨hL.ctx, hs, hix, hj⟩
    have hsl : (turnL l i).length = l.length := by rw [hs, hL.eq]; simp [sp_length, Tr.size]; omega
    have e1 : turnL l i = shf (shf l pre.length (i + 1) (-1)) j (pre.length + (a.size + 1 + b.size + 1 + c.size)) 1 := by
      unfold turnL
      rw [hL.par_i, Int.toNat_natCast, hp.1, hp.2, if_pos (by omega)]
    have p1 := fun x => shf_pt l pre.length (i + 1) (-1) (by omega) (by omega) x
    have p2 := fun x => shf_pt (shf l pre.length (i + 1) (-1)) j (pre.length + (a.size + 1 + b.size + 1 + c.size)) 1 (by omega) (by rw [shf_length _ _ _ _ (by omega)]; omega) x
    have hk : ∀ x, ky (turnL l i) x = ky l x := fun x => by rw [e1, (p2 x).1, (p1 x).1]
    refine ⟨hjl, by omega, by rw [hp.1]; omega, by rw [hp.2]; omega, hsl, hk, fun x => ?_, isTree_same h hsl hk ?_, ?_, ?_⟩
    · rw [e1]
      rcases (p2 x).2 with h2 | h2 <;> rcases (p1 x).2 with h1 | h1 <;> rw [h2, h1] <;> omega
    · obtain ⟨t', ht'⟩ := hL.ctx.fill (.node a k (.node b p c))
      exact ⟨t', by rw [hs, ht']⟩
    · rw [hRR.at_j.root.1]
      have := hL.ctx.ge
      omega
    · rw [hRR.turn, ← hL.eq]
  · refine ⟨j, hR.par_j, ?_⟩
    have hs := hR.turn
    have hj := hR.jdx
    have hix := hR.idx
    have hlen := hR.at_i.len
    have hp := hR.at_i.part
    simp only [Tr.size] at hlen hp
    have hjl : j < l.length := by omega
    have hLL : LL (turnL l i) j i d a k b p c pre post := ⟨hR.ctx, hs, hix, hj⟩
    have hsl : (turnL l i).length = l.length := by rw [hs, hR.eq]; simp [sp_length, Tr.size]; omega
    have e1 : turnL l i = shf (shf l pre.length (j + 1) 1) i (pre.length + (a.size + 1 + (b.size + 1 + c.size))) (-1) := by
      unfold turnL
      rw [hR.par_j, Int.toNat_natCast, hp.1, hp.2, if_neg (by omega)]
    have p1 := fun x => shf_pt l pre.length (j + 1) 1 (by omega) (by omega) x
    have p2 := fun x => shf_pt (shf l pre.length (j + 1) 1) i (pre.length + (a.size + 1 + (b.size + 1 + c.size))) (-1) (by omega) (by rw [shf_length _ _ _ _ (by omega)]; omega) x
    have hk : ∀ x, ky (turnL l i) x = ky l x := fun x => by rw [e1, (p2 x).1, (p1 x).1]
    refine ⟨hjl, by omega, by rw [hp.1]; omega, by rw [hp.2]; omega, hsl, hk, fun x => ?_, isTree_same h hsl hk ?_, ?_, ?_⟩
    · rw [e1]
      rcases (p2 x).2 with h2 | h2 <;> rcases (p1 x).2 with h1 | h1 <;> rw [h2, h1] <;> omega
    · obtain ⟨t', ht'⟩ := hR.ctx.fill (.node (.node a k b) p c)
      exact ⟨t', by rw [hs, ht']⟩
    · rw [hLL.at_i.root.1]
      have := hR.ctx.ge
      omega
    · rw [hLL.turn, ← hR.eq]

/-- how many stand along the way to the right -/
def Tr.spine : Tr → Nat
  | .nil => 0
  | .node _ _ b => b.spine + 1
theorem spine_le (t : Tr) : t.spine ≤ t.size := by
  induction t with
  | nil => exact Nat.le_refl _
  | node a k b _ ih => simp [Tr.spine, Tr.size]; omega
theorem spine_pos {t : Tr} (h : 0 < t.size) : 0 < t.spine := by
  cases t with
  | nil => simp [Tr.size] at h
  | node a k b => simp [Tr.spine]

/-- if none stands to the left they stand in a row -/
theorem row_of : ∀ (t : Tr) (d : Int) (pre post : PL), Ctx 0 d pre post → (∀ i, pre.length ≤ i → i < pre.length + t.size → ¬ (i : Int) < par (pre ++ t.sp d ++ post) i) → ∀ i, i < t.size → dp (t.sp d) i = d + i := by
  intro t
  induction t with
  | nil => intro d pre post _ _ i hi; simp [Tr.size] at hi
  | node a k b _ ihb =>
    intro d pre post hc hno i hi
    cases a with
    | node a1 k1 a2 =>
      have hL : LL (pre ++ (Tr.node (.node a1 k1 a2) k b).sp d ++ post) (pre.length + a1.size) (pre.length + (a1.size + 1 + a2.size)) d a1 k1 a2 k b pre post := ⟨hc, rfl, rfl, rfl⟩
      refine absurd ?_ (hno (pre.length + a1.size) (by omega) (by simp [Tr.size]; omega))
      rw [hL.par_i]
      omega
    | nil =>
      simp only [Tr.sp, List.nil_append]
      cases i with
      | zero => simp [dp]
      | succ i =>
        have e : dp ((k, d) :: b.sp (d + 1)) (i + 1) = dp (b.sp (d + 1)) i := by simp [dp]
        rw [e]
        have hc' := Ctx.right Tr.nil k hc
        have e2 : pre ++ Tr.nil.sp (d + 1) ++ [(k, d)] ++ b.sp (d + 1) ++ post = pre ++ (Tr.node .nil k b).sp d ++ post := by simp [Tr.sp]
        have := ihb (d + 1) _ post hc' (by
          intro i h1 h2
          rw [e2]
          refine hno i ?_ ?_
          · simp [Tr.sp] at h1; omega
          · simp [Tr.sp] at h2; simp [Tr.size]; omega) i (by simp [Tr.size] at hi; omega)
        rw [this]
        omega
theorem row_tree {l : PL} {t : Tr} (h : l = t.sp 0) (hno : ∀ i, i < l.length → ¬ (i : Int) < par l i) : ∀ i, i < l.length → dp l i = i := by
  intro i hi
  have := row_of t 0 [] [] .hole (by
    intro i _ h2
    simp only [List.nil_append, List.append_nil, ← h]
    exact hno i (by rw [h, sp_length]; simpa using h2)) i (by rw [h, sp_length] at hi; exact hi)
  rw [h, this]
  omega

theorem up_ctx {d : Int} {pre post : PL} (hc : Ctx 0 d pre post) : ∀ (ua : Tr) (uk : Int) (ub : Tr),
    (∀ i, i < (pre ++ (Tr.node ua uk ub).sp d ++ post).length → (i : Int) < par (pre ++ (Tr.node ua uk ub).sp d ++ post) i → d < dp (pre ++ (Tr.node ua uk ub).sp d ++ post) i) →
    ∃ m : Nat, ∀ u : Tr, ∃ t : Tr, t.sp 0 = pre ++ u.sp d ++ post ∧ t.spine = m + u.spine := by
  induction hc with
  | hole => intro _ _ _ _; exact ⟨0, fun u => ⟨u, by simp, by omega⟩⟩
  | left k b hc ih =>
    rename_i d pre post
    intro ua uk ub h
    have hL : LL (pre ++ (Tr.node ua uk ub).sp (d + 1) ++ ((k, d) :: b.sp (d + 1) ++ post)) (pre.length + ua.size) (pre.length + (ua.size + 1 + ub.size)) d ua uk ub k b pre post := ⟨hc, by simp [Tr.sp], rfl, rfl⟩
    have h1 := h (pre.length + ua.size) (by simp [sp_length, Tr.size]; omega) (by rw [hL.par_i]; omega)
    rw [hL.at_i.root.1] at h1
    omega
  | right a k hc ih =>
    rename_i d pre post
    intro ua uk ub h
    have e : ∀ u : Tr, pre ++ a.sp (d + 1) ++ [(k, d)] ++ u.sp (d + 1) ++ post = pre ++ (Tr.node a k u).sp d ++ post := fun u => by simp [Tr.sp]
    rw [e] at h
    obtain ⟨m, hm⟩ := ih a k (.node ua uk ub) (fun i h1 h2 => by have := h i h1 h2; omega)
    refine ⟨m + 1, fun u => ?_⟩
    obtain ⟨t, ht, hs⟩ := hm (.node a k u)
    exact ⟨t, by rw [ht, e], by rw [hs]; simp [Tr.spine]; omega⟩

/-- the highest left one comes up: one more along the way to the right -/
theorem way_step {l : PL} {t : Tr} (h : l = t.sp 0) {i : Nat} (hi : i < l.length) (hleft : (i : Int) < par l i) (hmin : ∀ x, x < l.length → (x : Int) < par l x → dp l i ≤ dp l x) :
    dp l i ≠ 0 ∧ ∃ t' : Tr, turnL l i = t'.sp 0 ∧ t'.spine = t.spine + 1 := by
  have hd : dp l i ≠ 0 := by
    intro h0
    rw [par_root h hi h0] at hleft
    omega
  refine ⟨hd, ?_⟩
  rcases above_of h hi hd with ⟨j, d, a, k, b, p, c, pre, post, hL⟩ | ⟨j, d, a, k, b, p, c, pre, post, hR⟩
  · have hdi := hL.at_i.root.1
    have hu := up_ctx hL.ctx (.node a k b) p c (by
      rw [← hL.eq]
      intro x h1 h2
      have := hmin x h1 h2
      omega)
    obtain ⟨m, hm⟩ := hu
    obtain ⟨t0, h0, hs0⟩ := hm (.node (.node a k b) p c)
    have : t0 = t := sp_inj _ _ 0 (by rw [h0, ← h, hL.eq])
    subst this
    obtain ⟨t', h1, hs1⟩ := hm (.node a k (.node b p c))
    refine ⟨t', by rw [hL.turn, h1], ?_⟩
    rw [hs1, hs0]
    simp [Tr.spine]
    omega
  · rw [hR.par_j] at hleft
    have := hR.idx
    have := hR.jdx
    omega

end Go.Proofs.YtpnjnedfcdppaaaGreatDoor
