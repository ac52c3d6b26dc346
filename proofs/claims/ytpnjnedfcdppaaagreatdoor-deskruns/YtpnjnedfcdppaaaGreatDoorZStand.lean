/-
  package zip: topOf, stand.
-/
import Derived.Test.YtpnjnedfcdppaaaGreatDoorKRef1All
import Derived.Test.YtpnjnedfcdppaaaGreatDoorKKeysAll
import Derived.Test.YtpnjnedfcdppaaaGreatDoorSOrdAll
import Derived.Test.YtpnjnedfcdppaaaGreatDoorSChkAll
import Derived.Deep.LoopGhost
namespace Go.Proofs.YtpnjnedfcdppaaaGreatDoor
open Go.RowKit

theorem hp_uniq {t : Tr} : ∀ {t' : Tr} {l : PL}, Hp t l → Hp t' l → t = t' := by
  induction t with
  | nil =>
    intro t' l h h'
    have hl : l = [] := h
    cases t' with
    | nil => rfl
    | node a k b =>
      obtain ⟨la, v, lb, e, _⟩ := h'
      rw [hl] at e
      simp at e
  | node a k b iha ihb =>
    intro t' l h h'
    obtain ⟨la, v, lb, e, ha, hb, h1, h2⟩ := h
    cases t' with
    | nil =>
      have hl : l = [] := h'
      rw [hl] at e
      simp at e
    | node a' k' b' =>
      obtain ⟨la', v', lb', e', ha', hb', h1', h2'⟩ := h'
      have x := topTo_top e h1 h2
      have y := topTo_top e' h1' h2'
      obtain ⟨rfl, e2⟩ := List.append_inj (e.symm.trans e') (by omega)
      injection e2 with e3 e4
      injection e3 with e5 e6
      subst e4 e5 e6
      rw [iha ha ha', ihb hb hb']
theorem kys_at (l : PL) (k : Nat) (h : k < l.length) : (kys l)[k]'(by rw [kys_len]; exact h) = ky l k := by
  rw [ky_in h]
  simp [kys]
theorem zpl_kys (l : PL) : zpl (kys l) = l.map fun p => (p.1, (ht p.1 : Int)) := by simp [zpl, kys]
theorem zpl_split {mid la lb : PL} {k v : Int} (h : zpl (kys mid) = la ++ (k, v) :: lb) : ∃ ma d0 mb, mid = ma ++ (k, d0) :: mb ∧ zpl (kys ma) = la ∧ zpl (kys mb) = lb := by
  rw [zpl_kys] at h
  obtain ⟨ma, m2, rfl, h1, h2⟩ := List.map_eq_append_iff.1 h
  obtain ⟨p, mb, rfl, h3, h4⟩ := List.map_eq_cons_iff.1 h2
  injection h3 with h5 h6
  refine ⟨ma, p.2, mb, ?_, by rw [zpl_kys]; exact h1, by rw [zpl_kys]; exact h4⟩
  rw [← h5]
theorem zpl_kys_len (l : PL) : (zpl (kys l)).length = l.length := by rw [zpl_length, kys_len]

def zmost (ks : List Int) (k : Nat) : Int := if k = 0 then 0 else dp (zpl ks) (topTo (zpl ks) k)
theorem zmost_step {ks : List Int} {k : Nat} (hk : k < ks.length) :
    (zmost ks k < (ht ks[k] : Int) ∧ topTo (zpl ks) (k + 1) = k ∧ zmost ks (k + 1) = (ht ks[k] : Int)) ∨ (¬ zmost ks k < (ht ks[k] : Int) ∧ topTo (zpl ks) (k + 1) = topTo (zpl ks) k ∧ zmost ks (k + 1) = zmost ks k) := by
  have hd := zpl_dp ks k hk
  have e1 : zmost ks (k + 1) = dp (zpl ks) (topTo (zpl ks) (k + 1)) := by simp [zmost]
  rcases Nat.eq_zero_or_pos k with h0 | h0
  · subst h0
    have e0 : zmost ks 0 = 0 := by simp [zmost]
    have et : topTo (zpl ks) (0 + 1) = 0 := by simp [topTo]
    left
    rw [e1, et, hd, e0]
    have := ht_pos ks[0]
    exact ⟨by omega, rfl, rfl⟩
  · have e0 : zmost ks k = dp (zpl ks) (topTo (zpl ks) k) := by
      unfold zmost
      rw [if_neg (by omega)]
    have et : topTo (zpl ks) (k + 1) = if dp (zpl ks) (topTo (zpl ks) k) < dp (zpl ks) k then k else topTo (zpl ks) k := rfl
    rw [hd] at et
    rw [e1, e0]
    by_cases hlt : dp (zpl ks) (topTo (zpl ks) k) < (ht ks[k] : Int)
    · rw [if_pos hlt] at et
      left
      rw [et]
      exact ⟨hlt, rfl, hd⟩
    · rw [if_neg hlt] at et
      right
      rw [et]
      exact ⟨hlt, rfl, rfl⟩

set_option maxRecDepth 100000 in
set_option maxHeartbeats 1000000 in
theorem ztopOf_any (A : Option Addr) (n c : Nat) (l : PL) (w : World) (h : PS w A n c l) (hn : n ≤ 1000) (hT : Tb w) :
    Calls Tryz.prog 193 #[.slice A n c] w fun e w' => e = .returned (I (topTo (zpl (kys l)) n)) ∧ Below w.heap.size w w' := by
  have H := Lib.hid h
  have HL := Lib.hid h.len
  have HT := Lib.hid hT
  clear h hT
  go_enter Tryz.func193, Tryz.ntmps193
  go_wp2
  go_loopg [3, 4, 10] n (fun m t u i wr => ∃ k : Nat, k ≤ n ∧ n - k ≤ m ∧ i = .int .i64 k ∧ t = .int .i64 (topTo (zpl (kys l)) k) ∧ u = .int .i64 (zmost (kys l) k) ∧ Below w.heap.size w wr)
  case atStart => exact ⟨0, Nat.zero_le _, by omega, rfl, rfl, rfl, Below.refl _ _⟩
  case round =>
    obtain ⟨k, hk, hkm, rfl, rfl, rfl, hnx⟩ := hrel
    have HNX := Lib.hid hnx
    have hsz := hnx.size
    clear hnx
    by_cases hlt : k < n
    · obtain ⟨b, off, rfl, hb, hcs⟩ := H.out.dat (by omega)
      have hkl : k < (kys l).length := by rw [kys_len, HL.out]; exact hlt
      have hst := zmost_step hkl
      rw [kys_at l k (by rw [HL.out]; exact hlt)] at hst
      have hc0 : wr.cell? ⟨b, off + k * 2, none⟩ = some (I (ky l k)) := (HNX.out.cell (by exact hb)).trans (hcs k hlt).1
      have hc1 : wr.cell? ⟨b, off + k * 2 + 1, none⟩ = some (I (dp l k)) := (HNX.out.cell (by exact hb)).trans (hcs k hlt).2
      obtain ⟨z, hz⟩ : ∃ z, ky l k = z := ⟨_, rfl⟩
      obtain ⟨y, hy⟩ : ∃ y, ht z = y := ⟨_, rfl⟩
      rw [hz] at hst hc0
      rw [hy] at hst
      have HH : Hid (∀ w', Below w.heap.size w w' → Calls Tryz.prog 191 #[I z] w' fun e w'' => e = .returned (I (y : Int)) ∧ w'' = w') := fun w' hb' => by
        rw [← hy]
        exact Height_any z w' (HT.out.next hb')
      have HN : Hid (kys l = kys l) := Lib.hid rfl
      clear hcs hkl hz hy
      obtain ⟨ks, hks⟩ : ∃ ks, kys l = ks := ⟨_, rfl⟩
      rw [hks] at hst ⊢
      obtain ⟨u, hu⟩ : ∃ u, zmost ks k = u := ⟨_, rfl⟩
      rw [hu] at hst ⊢
      obtain ⟨q, hq⟩ : ∃ q, topTo (zpl ks) k = q := ⟨_, rfl⟩
      rw [hq] at hst ⊢
      clear hu hq HN
      rcases hst with ⟨h1, h2, h3⟩ | ⟨h1, h2, h3⟩
      · have H2 := Lib.hid h2
        have H3 := Lib.hid h3
        clear h2 h3
        go_wp2_with fail
        refine (HH.out _ (HNX.out.alloc hsz _)).mono ?_
        rintro e w1 ⟨rfl, rfl⟩
        go_wp2
        go_roundg (gk - 1)
        case measure => omega
        case rel => exact ⟨k + 1, by omega, by omega, by go_num, by rw [hks, H2.out], by rw [hks, H3.out], HNX.out.alloc hsz _⟩
      · have H2 := Lib.hid h2
        have H3 := Lib.hid h3
        clear h2 h3
        go_wp2_with fail
        refine (HH.out _ (HNX.out.alloc hsz _)).mono ?_
        rintro e w1 ⟨rfl, rfl⟩
        go_wp2
        go_roundg (gk - 1)
        case measure => omega
        case rel => exact ⟨k + 1, by omega, by omega, by go_num, by rw [hks, H2.out], by rw [hks, H3.out], HNX.out.alloc hsz _⟩
    · obtain rfl : k = n := by omega
      go_wp2
      go_ret
      exact ⟨rfl, HNX.out⟩

theorem SB.part {w : World} {g t c : Nat} {pre mid post : PL} (h : SB w g t (pre ++ mid ++ post)) (hc : mid.length ≤ c) : PS w (some ⟨g, pre.length * 2, none⟩) mid.length c mid := by
  have h1 := h.ps (c := (pre ++ mid ++ post).length) (Nat.le_refl _)
  have h2 := h1.drop (c' := (pre ++ mid ++ post).length) pre.length (by simp) (some ⟨g, pre.length * 2, none⟩) (fun _ b off e => by cases e; simp) (by omega)
  have h3 := h2.take mid.length (by simp)
  have e : ((pre ++ mid ++ post).drop pre.length).take mid.length = mid := by
    rw [List.append_assoc, List.drop_left, List.take_left]
  rw [e] at h3
  exact ⟨h3.len, hc, h3.rd.2⟩
theorem zset_mid (pre ma mb post : PL) (k d0 d : Int) : (pre ++ (ma ++ (k, d0) :: mb) ++ post).set (pre.length + ma.length) (k, d) = pre ++ ma ++ ((k, d) :: mb ++ post) := by
  have e : pre ++ (ma ++ (k, d0) :: mb) ++ post = (pre ++ ma) ++ ((k, d0) :: (mb ++ post)) := by simp
  rw [e, List.set_append_right _ _ (by simp)]
  simp
theorem ky_mid2 (pre ma mb post : PL) (k d0 : Int) : ky (pre ++ (ma ++ (k, d0) :: mb) ++ post) (pre.length + ma.length) = k := by
  have e : pre ++ (ma ++ (k, d0) :: mb) ++ post = (pre ++ ma) ++ ((k, d0) :: (mb ++ post)) := by simp
  have := ky_mid (pre ++ ma) (mb ++ post) (k, d0)
  rw [List.length_append] at this
  rw [e]
  exact this

theorem zstand_nil (A : Option Addr) (c : Nat) (d : Int) (w : World) :
    Calls Tryz.prog 132 #[.slice A 0 c, I d] w fun e w' => e = .returned (.tuple #[]) ∧ w' = w := by
  go_enter Tryz.func132, Tryz.ntmps132
  go_wp2
  refine bodyPost_ret (results_none rfl _ _ _) rfl ?_
  exact ⟨rfl, rfl⟩

def RetZS (g : Nat) (L : PL) (w : World) (e : Ending) (w' : World) : Prop := e = .returned (.tuple #[]) ∧ SB w' g 82 L ∧ Below g w w'

set_option maxRecDepth 100000 in
set_option maxHeartbeats 4000000 in
theorem zstand_any (t : Tr) : ∀ (g x n c : Nat) (pre mid post : PL) (d : Int) (w : World), Hp t (zpl (kys mid)) → pre.length = x → mid.length = n → SB w g 82 (pre ++ mid ++ post) → n ≤ c → 3 < g → x + n ≤ 1000 → 0 ≤ d → d + n ≤ 1000 → Tb w →
    Calls Tryz.prog 132 #[.slice (some ⟨g, x * 2, none⟩) n c, I d] w (RetZS g (pre ++ t.sp d ++ post) w) := by
  induction t with
  | nil =>
    intro g x n c pre mid post d w hp hx hn h hc hg hxn hd hd2 hT
    have hm : mid = [] := by
      have : (zpl (kys mid)).length = 0 := by rw [show zpl (kys mid) = [] from hp]; rfl
      rw [zpl_kys_len] at this
      exact List.eq_nil_of_length_eq_zero this
    subst hm
    obtain rfl : n = 0 := hn.symm
    refine (zstand_nil _ c d w).mono ?_
    rintro e w' ⟨rfl, rfl⟩
    exact ⟨rfl, h, Below.refl _ _⟩
  | node a k b iha ihb =>
    intro g x n c pre mid post d w hp hx hn h hc hg hxn hd hd2 hT
    obtain ⟨la, v0, lb, hl, ha, hb, h1, h2⟩ := hp
    have htop := topTo_top hl h1 h2
    obtain ⟨ma, d0, mb, rfl, rfl, rfl⟩ := zpl_split hl
    rw [zpl_kys_len, zpl_kys_len, hn] at htop
    have HTOP := Lib.hid (ztopOf_any _ n c (ma ++ (k, d0) :: mb) w (by have := h.part (c := c) (by rw [hn]; exact hc); rwa [hx, hn] at this) (by omega) hT)
    rw [htop] at HTOP
    obtain ⟨y, hy⟩ : ∃ y, ma.length = y := ⟨_, rfl⟩
    have hnn : n = y + 1 + mb.length := by rw [← hn]; simp [hy]; omega
    rw [hy] at HTOP
    have hfz : Hid (∀ w', SB w' g 82 (pre ++ (ma ++ (k, d0) :: mb) ++ post) → w'.frozen? ⟨g, x * 2 + y * 2 + 1, none⟩ = false) := fun w' hs => hs.frozen _
    have HCL : Hid (∀ w', SB w' g 82 (pre ++ (ma ++ (k, d0) :: mb) ++ post) → ∃ old, w'.cell? ⟨g, x * 2 + y * 2 + 1, none⟩ = some (I old)) := fun w' hs => by
      have := (hs.cell (x + y) (by simp; omega)).2
      rw [Nat.add_mul] at this
      exact ⟨_, this⟩
    have HSET : Hid (∀ w', SB w' g 82 (pre ++ (ma ++ (k, d0) :: mb) ++ post) → SB (w'.setCell ⟨g, x * 2 + y * 2 + 1, none⟩ (I d)) g 82 (pre ++ ma ++ ((k, d) :: mb ++ post))) := fun w' hs => by
      have := hs.set1 (x + y) d (by simp; omega)
      rw [← hx, ← hy, ky_mid2, zset_mid, hx, hy, Nat.add_mul] at this
      exact this
    have IHA : Hid (∀ w', SB w' g 82 (pre ++ ma ++ ((k, d) :: mb ++ post)) → Tb w' → Calls Tryz.prog 132 #[.slice (some ⟨g, x * 2, none⟩) y c, I (d + 1)] w' (RetZS g (pre ++ a.sp (d + 1) ++ ((k, d) :: mb ++ post)) w')) := fun w' hs ht =>
      iha g x y c pre ma ((k, d) :: mb ++ post) (d + 1) w' ha hx hy hs (by omega) hg (by omega) (by omega) (by omega) ht
    have IHB : Hid (∀ w' sp c', SB w' g 82 (pre ++ a.sp (d + 1) ++ ((k, d) :: mb ++ post)) → Tb w' → (y + 1 < n → sp = some ⟨g, x * 2 + (y + 1) * 2, none⟩) → n - (y + 1) ≤ c' →
        Calls Tryz.prog 132 #[.slice sp ((n - (y + 1) : Nat)) c', I (d + 1)] w' (RetZS g (pre ++ (Tr.node a k b).sp d ++ post) w')) := fun w' sp c' hs ht hsp hc' => by
      have hsa : a.size = y := by rw [← hp_len ha, zpl_kys_len]; exact hy
      have hfin : ∀ m : PL, pre ++ a.sp (d + 1) ++ [(k, d)] ++ m ++ post = pre ++ a.sp (d + 1) ++ ((k, d) :: m ++ post) := fun m => by simp
      rcases Nat.eq_zero_or_pos mb.length with h0 | h0
      · have hmb : mb = [] := List.eq_nil_of_length_eq_zero h0
        subst hmb
        have hb0 : b = .nil := hp_uniq hb (show Hp .nil (zpl (kys [])) from rfl)
        subst hb0
        have : n - (y + 1) = 0 := by omega
        rw [this]
        refine (zstand_nil sp c' (d + 1) w').mono ?_
        rintro e w2 ⟨rfl, rfl⟩
        refine ⟨rfl, ?_, Below.refl _ _⟩
        have e : pre ++ (Tr.node a k .nil).sp d ++ post = pre ++ a.sp (d + 1) ++ ((k, d) :: [] ++ post) := by simp [Tr.sp]
        rw [e]
        exact hs
      · rw [hsp (by omega), show n - (y + 1) = mb.length by omega, show x * 2 + (y + 1) * 2 = (x + y + 1) * 2 by omega]
        have := ihb g (x + y + 1) mb.length c' (pre ++ a.sp (d + 1) ++ [(k, d)]) mb post (d + 1) w' hb (by simp [sp_length, hsa, hx]; omega) rfl (by rw [hfin]; exact hs) (by omega) hg (by omega) (by omega) (by omega) ht
        rw [hfin] at this
        have e : pre ++ (Tr.node a k b).sp d ++ post = pre ++ a.sp (d + 1) ++ ((k, d) :: b.sp (d + 1) ++ post) := by simp [Tr.sp]
        rw [e]
        exact this
    have H := Lib.hid h
    have HT := Lib.hid hT
    have hlt := h.lt
    clear iha ihb ha hb h1 h2 htop hl h hT hn hx hy
    have hn0 : ((n : Int) == 0) = false := by simp; omega
    have hyn : y < n := by omega
    have hyc : y + 1 ≤ n := by omega
    clear hnn
    go_enter Tryz.func132, Tryz.ntmps132
    go_wp2_with fail
    refine HTOP.out.mono ?_
    rintro e w1 ⟨rfl, hb1⟩
    have HB1 := Lib.hid (hb1.mono (Nat.le_of_lt hlt))
    have hs1 := H.out.below hb1 hlt
    obtain ⟨old, hcell⟩ := HCL.out w1 hs1
    have hfz1 := hfz.out w1 hs1
    have HS1 := Lib.hid (HSET.out w1 hs1)
    have HT1 := Lib.hid ((HT.out.below HB1.out hg).below (((Below.refl _ _).setCell (B := g) (p := ⟨g, x * 2 + y * 2 + 1, none⟩) (Nat.le_refl _) (I d))) hg)
    have HB1' : Hid (Below g w (w1.setCell ⟨g, x * 2 + y * 2 + 1, none⟩ (I d))) := HB1.out.setCell (Nat.le_refl _) _
    clear hb1 hs1 HTOP HB1
    go_wp2_with fail
    refine (IHA.out _ HS1.out HT1.out).mono ?_
    rintro e w2 ⟨rfl, hs2, hb2⟩
    have HS2 := Lib.hid hs2
    have HT2 := Lib.hid (HT1.out.below hb2 hg)
    have HB2 := Lib.hid (HB1'.out.trans hb2)
    clear hs2 hb2 HS1 HT1 HB1' hcell hfz1
    go_wp2_with fail
    all_goals
      refine (IHB.out _ _ _ HS2.out HT2.out (by intro hlt; first | rfl | (exfalso; omega)) (by omega)).mono ?_
      rintro e w3 ⟨rfl, hs3, hb3⟩
      have HS3 := Lib.hid hs3
      have HB3 := Lib.hid (HB2.out.trans hb3)
      clear hs3 hb3
      go_wp2
      go_end0
      exact ⟨rfl, HS3.out, HB3.out⟩

end Go.Proofs.YtpnjnedfcdppaaaGreatDoor
