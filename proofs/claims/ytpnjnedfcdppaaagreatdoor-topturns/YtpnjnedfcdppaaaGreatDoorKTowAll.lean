/-
  Joined texts: YtpnjnedfcdppaaaGreatDoorSLeaf, YtpnjnedfcdppaaaGreatDoorZStand, YtpnjnedfcdppaaaGreatDoorKChk, YtpnjnedfcdppaaaGreatDoorKTow.
-/
import Derived.Test.YtpnjnedfcdppaaaGreatDoorChecked
import Derived.Test.YtpnjnedfcdppaaaGreatDoorOwnAll
import Derived.Test.YtpnjnedfcdppaaaGreatDoorSPureAll
import Derived.BigQuiet
import Derived.Deep.QuietTactic
import Derived.Test.YtpnjnedfcdppaaaGreatDoorZPureAll
import Derived.Test.YtpnjnedfcdppaaaGreatDoorDOpAll
import Derived.Test.YtpnjnedfcdppaaaGreatDoorSpotBAll
import Derived.Test.YtpnjnedfcdppaaaGreatDoorIntsAll
import Derived.Deep.LoopGhost
import Derived.Test.YtpnjnedfcdppaaaGreatDoorKPath0All
/-
  topOf, stands, Check.
-/
namespace Go.Proofs.YtpnjnedfcdppaaaGreatDoor
open Go.RowKit

/-- the cells of place i -/
theorem PS.dat {w : World} {n c : Nat} {A : Option Addr} {l : PL} (h : PS w A n c l) (hn : 0 < n) :
    ∃ b off, A = some ⟨b, off, none⟩ ∧ b < w.heap.size ∧ ∀ i, i < n → w.cell? ⟨b, off + i * 2, none⟩ = some (I (ky l i)) ∧ w.cell? ⟨b, off + i * 2 + 1, none⟩ = some (I (dp l i)) := by
  obtain ⟨b, off, e, hb, hc⟩ := h.at_ hn
  refine ⟨b, off, e, hb, fun i hi => ?_⟩
  have hl : i < l.length := by rw [h.len]; exact hi
  rw [ky_in hl, dp_in hl]
  exact hc i hi
theorem PS.take {w : World} {n c : Nat} {A : Option Addr} {l : PL} (h : PS w A n c l) (k : Nat) (hk : k ≤ n) : PS w A k c (l.take k) := by
  refine ⟨by simp [h.len]; omega, by have := h.rd.1; omega, fun h0 => ?_⟩
  obtain ⟨b, off, e, hb, hc⟩ := h.rd.2 (by omega)
  refine ⟨b, off, e, hb, fun i hi j hj => ?_⟩
  rw [hc i (by omega) j hj]
  simp [pf, List.getElem?_take, hi]
theorem PS.drop {w : World} {n c c' : Nat} {A : Option Addr} {l : PL} (h : PS w A n c l) (k : Nat) (hk : k ≤ n) (sp : Option Addr) (hs : k < n → ∀ b off, A = some ⟨b, off, none⟩ → sp = some ⟨b, off + k * 2, none⟩) (hc' : n - k ≤ c') : PS w sp (n - k) c' (l.drop k) := by
  refine ⟨by simp [h.len], hc', fun h0 => ?_⟩
  obtain ⟨b, off, e, hb, hc⟩ := h.rd.2 (by omega)
  refine ⟨b, off + k * 2, hs (by omega) b off e, hb, fun i hi j hj => ?_⟩
  have := hc (k + i) (by omega) j hj
  rw [show off + ((k + i) * 2 + j) = off + k * 2 + (i * 2 + j) by omega] at this
  rw [this]
  simp [pf, List.getElem?_drop]

/-- the top of the first k -/
def TopTo (l : PL) (k j : Nat) : Prop := (∀ i, i < k → dp l j ≤ dp l i) ∧ ∀ i, i < j → dp l j < dp l i
theorem topTo_less {l : PL} {k j : Nat} (h : TopTo l k j) (hd : dp l k < dp l j) : TopTo l (k + 1) k := by
  constructor
  · intro i hi
    rcases Nat.lt_or_ge i k with h1 | h1
    · have := h.1 i h1; omega
    · obtain rfl : i = k := by omega
      exact Int.le_refl _
  · intro i hi
    have := h.1 i hi; omega
theorem topTo_same {l : PL} {k j : Nat} (h : TopTo l k j) (hd : ¬ dp l k < dp l j) : TopTo l (k + 1) j := by
  refine ⟨fun i hi => ?_, h.2⟩
  rcases Nat.lt_or_ge i k with h1 | h1
  · exact h.1 i h1
  · obtain rfl : i = k := by omega
    omega

set_option maxHeartbeats 1000000 in
theorem topOf_any (A : Option Addr) (n c : Nat) (l : PL) (w : World) (h : PS w A n c l) (hn : n ≤ 1000) (h0 : 0 < n) :
    Calls Tryz.prog 200 #[.slice A n c] w fun e w' => e = .returned (I (topR l)) ∧ Below w.heap.size w w' := by
  have H := Lib.hid h
  have Hlen := Lib.hid h.len
  clear h
  obtain ⟨b, off, rfl, hb, hc⟩ := H.out.dat h0
  have HC := Lib.hid hc
  clear hc
  go_enter Tryz.func200, Tryz.ntmps200
  go_wp2
  go_loopw [3, 8] (fun t i wr => ∃ k j : Nat, k ≤ n ∧ j < n ∧ i = .int .i64 k ∧ t = .int .i64 j ∧ TopTo l k j ∧ Below w.heap.size w wr) (fun _ i _ => n - (intOf i).toNat)
  case atStart => exact ⟨0, 0, Nat.zero_le _, h0, rfl, rfl, ⟨fun i hi => absurd hi (by omega), fun i hi => absurd hi (by omega)⟩, Below.refl _ _⟩
  case round =>
    obtain ⟨k, j, hk, hj, rfl, rfl, htop, hnx⟩ := hrel
    have hsz := hnx.size
    have hbwr : b < wr.heap.size := by omega
    by_cases hlt : k < n
    · have hc0 : wr.cell? ⟨b, off + k * 2, none⟩ = some (I (ky l k)) := (hnx.cell (by exact hb)).trans (HC.out k hlt).1
      have hc1 : wr.cell? ⟨b, off + k * 2 + 1, none⟩ = some (I (dp l k)) := (hnx.cell (by exact hb)).trans (HC.out k hlt).2
      have hj1 : wr.cell? ⟨b, off + j * 2 + 1, none⟩ = some (I (dp l j)) := (hnx.cell (by exact hb)).trans (HC.out j hj).2
      by_cases hd : dp l k < dp l j
      · have HT := Lib.hid (topTo_less htop hd)
        clear htop
        go_wp2
        go_quiet (fail)
        go_wp2
        go_roundw
        case rel => exact ⟨k + 1, k, by omega, hlt, by go_num, rfl, HT.out, below_drewN (hnx.alloc hsz _) _⟩
        case measure => simp [intOf]; omega
      · have HT := Lib.hid (topTo_same htop hd)
        clear htop
        go_wp2
        go_quiet (fail)
        go_wp2
        go_roundw
        case rel => exact ⟨k + 1, j, by omega, hj, by go_num, rfl, HT.out, below_drewN (hnx.alloc hsz _) _⟩
        case measure => simp [intOf]; omega
    · have HF : Hid (topR l = j) := topR_eq ⟨by rw [Hlen.out]; exact hj, fun i hi => htop.1 i (by rw [Hlen.out] at hi; omega), htop.2⟩
      clear htop
      go_wp2
      go_ret
      exact ⟨ret_int (by rw [HF.out]), hnx⟩

theorem Below.retB {b b' : Bool} {w : World} {e : Ending} {w' : World} (hb : b = b') (h : e = .returned (.bool b) ∧ Below w.heap.size w w') : e = .returned (.bool b') ∧ Below w.heap.size w w' := by rw [← hb]; exact h

set_option maxRecDepth 100000 in
set_option maxHeartbeats 2000000 in
theorem stands_any : ∀ (m : Nat) (A : Option Addr) (n c : Nat) (l : PL) (d : Int) (w : World), PS w A n c l → n ≤ m → n ≤ 200 → 0 ≤ d → d + n ≤ 1000 →
    Calls Tryz.prog 141 #[.slice A n c, I d] w fun e w' => e = .returned (.bool (stB l d)) ∧ Below w.heap.size w w' := by
  intro m
  induction m with
  | zero =>
    intro A n c l d w h hm _ _ _
    have hl : l = [] := List.eq_nil_of_length_eq_zero (by rw [h.len]; omega)
    have HF : Hid (stB l d = true) := by show _ = _; rw [hl]; exact stB_nil d
    obtain rfl : n = 0 := by omega
    clear hl h
    go_enter Tryz.func141, Tryz.ntmps141
    go_wp2
    go_ret
    exact ⟨by rw [HF.out]; rfl, Below.refl _ _⟩
  | succ m ih =>
    intro A n c l d w h hm hn hd0 hd1
    by_cases h0 : n = 0
    · have hl : l = [] := List.eq_nil_of_length_eq_zero (by rw [h.len]; omega)
      have HF : Hid (stB l d = true) := by show _ = _; rw [hl]; exact stB_nil d
      subst h0
      clear hl h
      go_enter Tryz.func141, Tryz.ntmps141
      go_wp2
      go_ret
      exact ⟨by rw [HF.out]; rfl, Below.refl _ _⟩
    · have hnb : ((n : Int) == 0) = false := by simp; omega
      have hne : l ≠ [] := by intro e; subst e; have := h.len; simp at this; omega
      have htl : topR l < n := by have := topR_lt hne; rw [h.len] at this; exact this
      have HS := Lib.hid (stB_cons hne d)
      have H := Lib.hid h
      have IH := Lib.hid ih
      clear h ih hne
      have htop := topOf_any A n c l w H.out (by omega) (by omega)
      obtain ⟨b, off, rfl, hb, hc⟩ := H.out.dat (by omega)
      have HC := Lib.hid (hc (topR l) htl).2
      have hcap : n ≤ c := H.out.rd.1
      clear hc
      generalize topR l = t at *
      have HTOP := Lib.hid htop
      clear htop
      go_enter Tryz.func141, Tryz.ntmps141
      go_wp2_with fail
      refine HTOP.out.mono ?_
      rintro e w1 ⟨rfl, hb1⟩
      have hc1 : w1.cell? ⟨b, off + t * 2 + 1, none⟩ = some (I (dp l t)) := (hb1.cell (by exact hb)).trans HC.out
      have HB1 := Lib.hid hb1
      clear hb1
      by_cases hdd : dp l t = d
      · have hb0 : (dp l t == d) = true := by simp [hdd]
        have h1 : Hid (decide (dp l t = d) = true) := by show _ = _; simp [hdd]
        rw [h1.out, Bool.true_and] at HS
        have c1 := (IH.out (some ⟨b, off, none⟩) t c (l.take t) (d + 1) w1 ((H.out.below HB1.out).take t (by omega)) (by omega) (by omega) (by omega) (by omega))
        clear hdd h1
        cases hs1 : stB (l.take t) (d + 1) with
        | false =>
          have HF : Hid (stB l d = false) := by show _ = _; rw [HS.out, hs1]; rfl
          rw [hs1] at c1
          have C1 := Lib.hid c1
          clear c1 hs1 HS
          go_wp2_with fail
          refine C1.out.mono ?_
          rintro e w2 ⟨rfl, hb2⟩
          have HB2 := Lib.hid (HB1.out.trans (hb2.mono HB1.out.size))
          clear hb2
          go_wp2
          go_ret
          exact ⟨by rw [HF.out]; rfl, HB2.out⟩
        | true =>
          rw [hs1, Bool.true_and] at HS
          rw [hs1] at c1
          have C1 := Lib.hid c1
          clear c1 hs1
          go_wp2_with fail
          refine C1.out.mono ?_
          rintro e w2 ⟨rfl, hb2⟩
          have HB2 := Lib.hid (HB1.out.trans (hb2.mono HB1.out.size))
          clear hb2
          go_wp2_with fail
          all_goals
            refine (IH.out _ (n - (t + 1)) _ (l.drop (t + 1)) (d + 1) w2 ((H.out.below HB2.out).drop (t + 1) (by omega) _ ?hs ?hcc) (by omega) (by omega) (by omega) (by omega)).mono ?_
            case hs =>
              intro hlt b' off' he
              cases he
              first | rfl | (exfalso; omega)
            case hcc => omega
            rintro e w3 ⟨rfl, hb3⟩
            have HB3 := Lib.hid (HB2.out.trans (hb3.mono HB2.out.size))
            clear hb3
            go_wp2
            go_ret
            exact ⟨by rw [HS.out]; rfl, HB3.out⟩
      · have hb0 : (dp l t == d) = false := by simp [hdd]
        have HF : Hid (stB l d = false) := by show _ = _; rw [HS.out]; simp [hdd]
        clear hdd HS
        go_wp2
        go_ret
        exact ⟨by rw [HF.out]; rfl, HB1.out⟩

end Go.Proofs.YtpnjnedfcdppaaaGreatDoor

/-
  package zip: topOf, stand.
-/
namespace Go.Proofs.YtpnjnedfcdppaaaGreatDoor
open Go.RowKit

theorem hp_uniq {t : Tr} : ∀ {t' : Tr} {l : PL}, Hp t l → Hp t' l → t = t' := by
  induction t with
  | nil =>
    intro t' l h h'
    have hl : l = [] := h
    cases t' with
    | nil => rfl
    | node a k b =>
      obtain ⟨la, v, lb, e, _⟩ := h'
      rw [hl] at e
      simp at e
  | node a k b iha ihb =>
    intro t' l h h'
    obtain ⟨la, v, lb, e, ha, hb, h1, h2⟩ := h
    cases t' with
    | nil =>
      have hl : l = [] := h'
      rw [hl] at e
      simp at e
    | node a' k' b' =>
      obtain ⟨la', v', lb', e', ha', hb', h1', h2'⟩ := h'
      have x := topTo_top e h1 h2
      have y := topTo_top e' h1' h2'
      obtain ⟨rfl, e2⟩ := List.append_inj (e.symm.trans e') (by omega)
      injection e2 with e3 e4
      injection e3 with e5 e6
      subst e4 e5 e6
      rw [iha ha ha', ihb hb hb']
theorem kys_at (l : PL) (k : Nat) (h : k < l.length) : (kys l)[k]'(by rw [kys_len]; exact h) = ky l k := by
  rw [ky_in h]
  simp [kys]
theorem zpl_kys (l : PL) : zpl (kys l) = l.map fun p => (p.1, (ht p.1 : Int)) := by simp [zpl, kys]
theorem zpl_split {mid la lb : PL} {k v : Int} (h : zpl (kys mid) = la ++ (k, v) :: lb) : ∃ ma d0 mb, mid = ma ++ (k, d0) :: mb ∧ zpl (kys ma) = la ∧ zpl (kys mb) = lb := by
  rw [zpl_kys] at h
  obtain ⟨ma, m2, rfl, h1, h2⟩ := List.map_eq_append_iff.1 h
  obtain ⟨p, mb, rfl, h3, h4⟩ := List.map_eq_cons_iff.1 h2
  injection h3 with h5 h6
  refine ⟨ma, p.2, mb, ?_, by rw [zpl_kys]; exact h1, by rw [zpl_kys]; exact h4⟩
  rw [← h5]
theorem zpl_kys_len (l : PL) : (zpl (kys l)).length = l.length := by rw [zpl_length, kys_len]

/-- the greatest height among the first k -/
def zmost (ks : List Int) (k : Nat) : Int := if k = 0 then 0 else dp (zpl ks) (topTo (zpl ks) k)
theorem zmost_step {ks : List Int} {k : Nat} (hk : k < ks.length) :
    (zmost ks k < (ht ks[k] : Int) ∧ topTo (zpl ks) (k + 1) = k ∧ zmost ks (k + 1) = (ht ks[k] : Int)) ∨ (¬ zmost ks k < (ht ks[k] : Int) ∧ topTo (zpl ks) (k + 1) = topTo (zpl ks) k ∧ zmost ks (k + 1) = zmost ks k) := by
  have hd := zpl_dp ks k hk
  have e1 : zmost ks (k + 1) = dp (zpl ks) (topTo (zpl ks) (k + 1)) := by simp [zmost]
  rcases Nat.eq_zero_or_pos k with h0 | h0
  · subst h0
    have e0 : zmost ks 0 = 0 := by simp [zmost]
    have et : topTo (zpl ks) (0 + 1) = 0 := by simp [topTo]
    left
    rw [e1, et, hd, e0]
    have := ht_pos ks[0]
    exact ⟨by omega, rfl, rfl⟩
  · have e0 : zmost ks k = dp (zpl ks) (topTo (zpl ks) k) := by
      unfold zmost
      rw [if_neg (by omega)]
    have et : topTo (zpl ks) (k + 1) = if dp (zpl ks) (topTo (zpl ks) k) < dp (zpl ks) k then k else topTo (zpl ks) k := rfl
    rw [hd] at et
    rw [e1, e0]
    by_cases hlt : dp (zpl ks) (topTo (zpl ks) k) < (ht ks[k] : Int)
    · rw [if_pos hlt] at et
      left
      rw [et]
      exact ⟨hlt, rfl, hd⟩
    · rw [if_neg hlt] at et
      right
      rw [et]
      exact ⟨hlt, rfl, rfl⟩

set_option maxRecDepth 100000 in
set_option maxHeartbeats 1000000 in
theorem ztopOf_any (A : Option Addr) (n c : Nat) (l : PL) (w : World) (h : PS w A n c l) (hn : n ≤ 1000) (hT : Tb w) :
    Calls Tryz.prog 193 #[.slice A n c] w fun e w' => e = .returned (I (topTo (zpl (kys l)) n)) ∧ Below w.heap.size w w' := by
  have H := Lib.hid h
  have HL := Lib.hid h.len
  have HT := Lib.hid hT
  clear h hT
  go_enter Tryz.func193, Tryz.ntmps193
  go_wp2
  go_loopg [3, 4, 10] n (fun m t u i wr => ∃ k : Nat, k ≤ n ∧ n - k ≤ m ∧ i = .int .i64 k ∧ t = .int .i64 (topTo (zpl (kys l)) k) ∧ u = .int .i64 (zmost (kys l) k) ∧ Below w.heap.size w wr)
  case atStart => exact ⟨0, Nat.zero_le _, by omega, rfl, rfl, rfl, Below.refl _ _⟩
  case round =>
    obtain ⟨k, hk, hkm, rfl, rfl, rfl, hnx⟩ := hrel
    have HNX := Lib.hid hnx
    have hsz := hnx.size
    clear hnx
    by_cases hlt : k < n
    · obtain ⟨b, off, rfl, hb, hcs⟩ := H.out.dat (by omega)
      have hkl : k < (kys l).length := by rw [kys_len, HL.out]; exact hlt
      have hst := zmost_step hkl
      rw [kys_at l k (by rw [HL.out]; exact hlt)] at hst
      have hc0 : wr.cell? ⟨b, off + k * 2, none⟩ = some (I (ky l k)) := (HNX.out.cell (by exact hb)).trans (hcs k hlt).1
      have hc1 : wr.cell? ⟨b, off + k * 2 + 1, none⟩ = some (I (dp l k)) := (HNX.out.cell (by exact hb)).trans (hcs k hlt).2
      obtain ⟨z, hz⟩ : ∃ z, ky l k = z := ⟨_, rfl⟩
      obtain ⟨y, hy⟩ : ∃ y, ht z = y := ⟨_, rfl⟩
      rw [hz] at hst hc0
      rw [hy] at hst
      have HH : Hid (∀ w', Below w.heap.size w w' → Calls Tryz.prog 191 #[I z] w' fun e w'' => e = .returned (I (y : Int)) ∧ w'' = w') := fun w' hb' => by
        rw [← hy]
        exact Height_any z w' (HT.out.next hb')
      have HN : Hid (kys l = kys l) := Lib.hid rfl
      clear hcs hkl hz hy
      obtain ⟨ks, hks⟩ : ∃ ks, kys l = ks := ⟨_, rfl⟩
      rw [hks] at hst ⊢
      obtain ⟨u, hu⟩ : ∃ u, zmost ks k = u := ⟨_, rfl⟩
      rw [hu] at hst ⊢
      obtain ⟨q, hq⟩ : ∃ q, topTo (zpl ks) k = q := ⟨_, rfl⟩
      rw [hq] at hst ⊢
      clear hu hq HN
      rcases hst with ⟨h1, h2, h3⟩ | ⟨h1, h2, h3⟩
      · have H2 := Lib.hid h2
        have H3 := Lib.hid h3
        clear h2 h3
        go_wp2_with fail
        refine (HH.out _ (HNX.out.alloc hsz _)).mono ?_
        rintro e w1 ⟨rfl, rfl⟩
        go_wp2
        go_roundg (gk - 1)
        case measure => omega
        case rel => exact ⟨k + 1, by omega, by omega, by go_num, by rw [hks, H2.out], by rw [hks, H3.out], HNX.out.alloc hsz _⟩
      · have H2 := Lib.hid h2
        have H3 := Lib.hid h3
        clear h2 h3
        go_wp2_with fail
        refine (HH.out _ (HNX.out.alloc hsz _)).mono ?_
        rintro e w1 ⟨rfl, rfl⟩
        go_wp2
        go_roundg (gk - 1)
        case measure => omega
        case rel => exact ⟨k + 1, by omega, by omega, by go_num, by rw [hks, H2.out], by rw [hks, H3.out], HNX.out.alloc hsz _⟩
    · obtain rfl : k = n := by omega
      go_wp2
      go_ret
      exact ⟨rfl, HNX.out⟩

theorem SB.part {w : World} {g t c : Nat} {pre mid post : PL} (h : SB w g t (pre ++ mid ++ post)) (hc : mid.length ≤ c) : PS w (some ⟨g, pre.length * 2, none⟩) mid.length c mid := by
  have h1 := h.ps (c := (pre ++ mid ++ post).length) (Nat.le_refl _)
  have h2 := h1.drop (c' := (pre ++ mid ++ post).length) pre.length (by simp) (some ⟨g, pre.length * 2, none⟩) (fun _ b off e => by cases e; simp) (by omega)
  have h3 := h2.take mid.length (by simp)
  have e : ((pre ++ mid ++ post).drop pre.length).take mid.length = mid := by
    rw [List.append_assoc, List.drop_left, List.take_left]
  rw [e] at h3
  exact ⟨h3.len, hc, h3.rd.2⟩
theorem zset_mid (pre ma mb post : PL) (k d0 d : Int) : (pre ++ (ma ++ (k, d0) :: mb) ++ post).set (pre.length + ma.length) (k, d) = pre ++ ma ++ ((k, d) :: mb ++ post) := by
  have e : pre ++ (ma ++ (k, d0) :: mb) ++ post = (pre ++ ma) ++ ((k, d0) :: (mb ++ post)) := by simp
  rw [e, List.set_append_right _ _ (by simp)]
  simp
theorem ky_mid2 (pre ma mb post : PL) (k d0 : Int) : ky (pre ++ (ma ++ (k, d0) :: mb) ++ post) (pre.length + ma.length) = k := by
  have e : pre ++ (ma ++ (k, d0) :: mb) ++ post = (pre ++ ma) ++ ((k, d0) :: (mb ++ post)) := by simp
  have := ky_mid (pre ++ ma) (mb ++ post) (k, d0)
  rw [List.length_append] at this
  rw [e]
  exact this

theorem zstand_nil (A : Option Addr) (c : Nat) (d : Int) (w : World) :
    Calls Tryz.prog 132 #[.slice A 0 c, I d] w fun e w' => e = .returned (.tuple #[]) ∧ w' = w := by
  go_enter Tryz.func132, Tryz.ntmps132
  go_wp2
  refine bodyPost_ret (results_none rfl _ _ _) rfl ?_
  exact ⟨rfl, rfl⟩

def RetZS (g : Nat) (L : PL) (w : World) (e : Ending) (w' : World) : Prop := e = .returned (.tuple #[]) ∧ SB w' g 82 L ∧ Below g w w'

set_option maxRecDepth 100000 in
set_option maxHeartbeats 4000000 in
theorem zstand_any (t : Tr) : ∀ (g x n c : Nat) (pre mid post : PL) (d : Int) (w : World), Hp t (zpl (kys mid)) → pre.length = x → mid.length = n → SB w g 82 (pre ++ mid ++ post) → n ≤ c → 3 < g → x + n ≤ 1000 → 0 ≤ d → d + n ≤ 1000 → Tb w →
    Calls Tryz.prog 132 #[.slice (some ⟨g, x * 2, none⟩) n c, I d] w (RetZS g (pre ++ t.sp d ++ post) w) := by
  induction t with
  | nil =>
    intro g x n c pre mid post d w hp hx hn h hc hg hxn hd hd2 hT
    have hm : mid = [] := by
      have : (zpl (kys mid)).length = 0 := by rw [show zpl (kys mid) = [] from hp]; rfl
      rw [zpl_kys_len] at this
      exact List.eq_nil_of_length_eq_zero this
    subst hm
    obtain rfl : n = 0 := hn.symm
    refine (zstand_nil _ c d w).mono ?_
    rintro e w' ⟨rfl, rfl⟩
    exact ⟨rfl, h, Below.refl _ _⟩
  | node a k b iha ihb =>
    intro g x n c pre mid post d w hp hx hn h hc hg hxn hd hd2 hT
    obtain ⟨la, v0, lb, hl, ha, hb, h1, h2⟩ := hp
    have htop := topTo_top hl h1 h2
    obtain ⟨ma, d0, mb, rfl, rfl, rfl⟩ := zpl_split hl
    rw [zpl_kys_len, zpl_kys_len, hn] at htop
    have HTOP := Lib.hid (ztopOf_any _ n c (ma ++ (k, d0) :: mb) w (by have := h.part (c := c) (by rw [hn]; exact hc); rwa [hx, hn] at this) (by omega) hT)
    rw [htop] at HTOP
    obtain ⟨y, hy⟩ : ∃ y, ma.length = y := ⟨_, rfl⟩
    have hnn : n = y + 1 + mb.length := by rw [← hn]; simp [hy]; omega
    rw [hy] at HTOP
    have hfz : Hid (∀ w', SB w' g 82 (pre ++ (ma ++ (k, d0) :: mb) ++ post) → w'.frozen? ⟨g, x * 2 + y * 2 + 1, none⟩ = false) := fun w' hs => hs.frozen _
    have HCL : Hid (∀ w', SB w' g 82 (pre ++ (ma ++ (k, d0) :: mb) ++ post) → ∃ old, w'.cell? ⟨g, x * 2 + y * 2 + 1, none⟩ = some (I old)) := fun w' hs => by
      have := (hs.cell (x + y) (by simp; omega)).2
      rw [Nat.add_mul] at this
      exact ⟨_, this⟩
    have HSET : Hid (∀ w', SB w' g 82 (pre ++ (ma ++ (k, d0) :: mb) ++ post) → SB (w'.setCell ⟨g, x * 2 + y * 2 + 1, none⟩ (I d)) g 82 (pre ++ ma ++ ((k, d) :: mb ++ post))) := fun w' hs => by
      have := hs.set1 (x + y) d (by simp; omega)
      rw [← hx, ← hy, ky_mid2, zset_mid, hx, hy, Nat.add_mul] at this
      exact this
    have IHA : Hid (∀ w', SB w' g 82 (pre ++ ma ++ ((k, d) :: mb ++ post)) → Tb w' → Calls Tryz.prog 132 #[.slice (some ⟨g, x * 2, none⟩) y c, I (d + 1)] w' (RetZS g (pre ++ a.sp (d + 1) ++ ((k, d) :: mb ++ post)) w')) := fun w' hs ht =>
      iha g x y c pre ma ((k, d) :: mb ++ post) (d + 1) w' ha hx hy hs (by omega) hg (by omega) (by omega) (by omega) ht
    have IHB : Hid (∀ w' sp c', SB w' g 82 (pre ++ a.sp (d + 1) ++ ((k, d) :: mb ++ post)) → Tb w' → (y + 1 < n → sp = some ⟨g, x * 2 + (y + 1) * 2, none⟩) → n - (y + 1) ≤ c' →
        Calls Tryz.prog 132 #[.slice sp ((n - (y + 1) : Nat)) c', I (d + 1)] w' (RetZS g (pre ++ (Tr.node a k b).sp d ++ post) w')) := fun w' sp c' hs ht hsp hc' => by
      have hsa : a.size = y := by rw [← hp_len ha, zpl_kys_len]; exact hy
      have hfin : ∀ m : PL, pre ++ a.sp (d + 1) ++ [(k, d)] ++ m ++ post = pre ++ a.sp (d + 1) ++ ((k, d) :: m ++ post) := fun m => by simp
      rcases Nat.eq_zero_or_pos mb.length with h0 | h0
      · have hmb : mb = [] := List.eq_nil_of_length_eq_zero h0
        subst hmb
        have hb0 : b = .nil := hp_uniq hb (show Hp .nil (zpl (kys [])) from rfl)
        subst hb0
        have : n - (y + 1) = 0 := by omega
        rw [this]
        refine (zstand_nil sp c' (d + 1) w').mono ?_
        rintro e w2 ⟨rfl, rfl⟩
        refine ⟨rfl, ?_, Below.refl _ _⟩
        have e : pre ++ (Tr.node a k .nil).sp d ++ post = pre ++ a.sp (d + 1) ++ ((k, d) :: [] ++ post) := by simp [Tr.sp]
        rw [e]
        exact hs
      · rw [hsp (by omega), show n - (y + 1) = mb.length by omega, show x * 2 + (y + 1) * 2 = (x + y + 1) * 2 by omega]
        have := ihb g (x + y + 1) mb.length c' (pre ++ a.sp (d + 1) ++ [(k, d)]) mb post (d + 1) w' hb (by simp [sp_length, hsa, hx]; omega) rfl (by rw [hfin]; exact hs) (by omega) hg (by omega) (by omega) (by omega) ht
        rw [hfin] at this
        have e : pre ++ (Tr.node a k b).sp d ++ post = pre ++ a.sp (d + 1) ++ ((k, d) :: b.sp (d + 1) ++ post) := by simp [Tr.sp]
        rw [e]
        exact this
    have H := Lib.hid h
    have HT := Lib.hid hT
    have hlt := h.lt
    clear iha ihb ha hb h1 h2 htop hl h hT hn hx hy
    have hn0 : ((n : Int) == 0) = false := by simp; omega
    have hyn : y < n := by omega
    have hyc : y + 1 ≤ n := by omega
    clear hnn
    go_enter Tryz.func132, Tryz.ntmps132
    go_wp2_with fail
    refine HTOP.out.mono ?_
    rintro e w1 ⟨rfl, hb1⟩
    have HB1 := Lib.hid (hb1.mono (Nat.le_of_lt hlt))
    have hs1 := H.out.below hb1 hlt
    obtain ⟨old, hcell⟩ := HCL.out w1 hs1
    have hfz1 := hfz.out w1 hs1
    have HS1 := Lib.hid (HSET.out w1 hs1)
    have HT1 := Lib.hid ((HT.out.below HB1.out hg).below (((Below.refl _ _).setCell (B := g) (p := ⟨g, x * 2 + y * 2 + 1, none⟩) (Nat.le_refl _) (I d))) hg)
    have HB1' : Hid (Below g w (w1.setCell ⟨g, x * 2 + y * 2 + 1, none⟩ (I d))) := HB1.out.setCell (Nat.le_refl _) _
    clear hb1 hs1 HTOP HB1
    go_wp2_with fail
    refine (IHA.out _ HS1.out HT1.out).mono ?_
    rintro e w2 ⟨rfl, hs2, hb2⟩
    have HS2 := Lib.hid hs2
    have HT2 := Lib.hid (HT1.out.below hb2 hg)
    have HB2 := Lib.hid (HB1'.out.trans hb2)
    clear hs2 hb2 HS1 HT1 HB1' hcell hfz1
    go_wp2_with fail
    all_goals
      refine (IHB.out _ _ _ HS2.out HT2.out (by intro hlt; first | rfl | (exfalso; omega)) (by omega)).mono ?_
      rintro e w3 ⟨rfl, hs3, hb3⟩
      have HS3 := Lib.hid hs3
      have HB3 := Lib.hid (HB2.out.trans hb3)
      clear hs3 hb3
      go_wp2
      go_end0
      exact ⟨rfl, HS3.out, HB3.out⟩

end Go.Proofs.YtpnjnedfcdppaaaGreatDoor

/-
  WHICH LISTS ARE KEYS: skip.isKey, skip.check.
-/
namespace Go.Proofs.YtpnjnedfcdppaaaGreatDoor
open Go.RowKit

set_option maxHeartbeats 400000 in
theorem isKeyS_any (k : Int) (w : World) : Calls Tryz.prog 199 #[I k] w fun e w' => e = .returned (.bool (kyB k)) ∧ w' = w := by
  by_cases h0 : 0 ≤ k
  · by_cases h1 : k ≤ 1000000
    · have hk : kyB k = true := by simp [kyB, h0, h1]
      go_enter Tryz.func199, Tryz.ntmps199
      go_wp2
      go_ret
      exact ⟨by simp [hk], rfl⟩
    · have hk : kyB k = false := by simp [kyB, h0, h1]
      go_enter Tryz.func199, Tryz.ntmps199
      go_wp2
      go_ret
      exact ⟨by simp [hk], rfl⟩
  · have hk : kyB k = false := by simp [kyB, h0]
    go_enter Tryz.func199, Tryz.ntmps199
    go_wp2
    go_ret
    exact ⟨by simp [hk], rfl⟩
theorem isKeyS_is (k : Int) (w : World) (b : Bool) (h : kyB k = b) : Calls Tryz.prog 199 #[I k] w fun e w' => e = .returned (.bool b) ∧ w' = w := h ▸ isKeyS_any k w

theorem chkK_bad {l : List Int} {n k : Nat} (hl : l.length = n) (hn : ¬ 200 < n) (hk : k < n) (h : ¬ okK l k) : chkK l = 3 := by
  unfold chkK
  rw [if_neg (by omega), if_neg]
  intro ha
  exact h (ha k (by omega))
theorem chkK_good {l : List Int} {n : Nat} (hl : l.length = n) (hn : ¬ 200 < n) (h : okKs l n) : chkK l = 0 := by
  unfold chkK
  rw [if_neg (by omega), if_pos (by rw [hl]; exact h)]
theorem chkK_large {l : List Int} {n : Nat} (hl : l.length = n) (hn : 200 < n) : chkK l = 2 := by
  unfold chkK
  rw [if_pos (by omega)]

set_option maxHeartbeats 1000000 in
theorem checkS_any (A : Option Addr) (n c : Nat) (l : List Int) (w : World) (h : IS w A n c l) (hn : n ≤ 9223372036854775807) :
    Calls Tryz.prog 140 #[.slice A n c] w fun e w' => e = .returned (I (chkK l)) ∧ Below w.heap.size w w' := by
  have H := Lib.hid h
  have Hlen := Lib.hid h.len
  clear h
  by_cases h200 : 200 < n
  · have HF := Lib.hid (chkK_large Hlen.out h200)
    go_enter Tryz.func140, Tryz.ntmps140
    go_wp2
    go_ret
    exact ⟨ret_int (by rw [HF.out]), Below.refl _ _⟩
  · go_enter Tryz.func140, Tryz.ntmps140
    go_wp2
    go_loopw [10] (fun i wr => ∃ k : Nat, k ≤ n ∧ i = .int .i64 k ∧ okKs l k ∧ Below w.heap.size w wr) (fun i _ => n - (intOf i).toNat)
    case atStart => exact ⟨0, Nat.zero_le _, rfl, fun i hi => absurd hi (by omega), Below.refl _ _⟩
    case round =>
      obtain ⟨k, hk, rfl, hok, hnx⟩ := hrel
      have hsz := hnx.size
      by_cases hlt : k < n
      · obtain ⟨b, off, rfl, hb, hc⟩ := H.out.at_ (by omega)
        have hkl : k < l.length := by have := Hlen.out; omega
        have hc0 : wr.cell? ⟨b, off + k, none⟩ = some (I l[k]) := (hnx.cell (by exact hb)).trans (hc k hlt)
        have hbwr : b < wr.heap.size := by omega
        cases hkey : kyB l[k] with
        | false =>
          have HF : Hid (chkK l = 3) := chkK_bad Hlen.out h200 hlt fun h => by
            have := h.1
            simp [List.getElem?_eq_getElem hkl, hkey] at this
          have HK := Lib.hid hkey
          clear hkey hc hok
          go_wp2_with (go_at_call 199; refine (isKeyS_is _ _ _ HK.out).mono ?_; rintro e w' ⟨rfl, rfl⟩)
          go_ret
          exact ⟨ret_int (by rw [HF.out]), hnx⟩
        | true =>
          by_cases hk0 : 0 < k
          · have hkl1 : k - 1 < l.length := by omega
            have hp0 : wr.cell? ⟨b, off + (k - 1), none⟩ = some (I l[k - 1]) := (hnx.cell (by exact hb)).trans (hc (k - 1) (by omega))
            by_cases hge : l[k] ≤ l[k - 1]
            · have HF : Hid (chkK l = 3) := chkK_bad Hlen.out h200 hlt fun h => by
                have := h.2 hk0
                simp [List.getElem?_eq_getElem hkl, List.getElem?_eq_getElem hkl1] at this
                omega
              have HK := Lib.hid hkey
              clear hkey hc hok
              go_wp2_with (go_at_call 199; refine (isKeyS_is _ _ _ HK.out).mono ?_; rintro e w' ⟨rfl, rfl⟩)
              go_ret
              exact ⟨ret_int (by rw [HF.out]), hnx⟩
            · have HO : Hid (okKs l (k + 1)) := okKs_succ hok ⟨by simpa [List.getElem?_eq_getElem hkl] using hkey, fun _ => by simp [List.getElem?_eq_getElem hkl, List.getElem?_eq_getElem hkl1]; omega⟩
              have HK := Lib.hid hkey
              clear hkey hc hok
              go_wp2_with (go_at_call 199; refine (isKeyS_is _ _ _ HK.out).mono ?_; rintro e w' ⟨rfl, rfl⟩)
              go_roundw
              case rel => exact ⟨k + 1, by omega, by go_num, HO.out, hnx⟩
              case measure => simp [intOf]; omega
          · have HO : Hid (okKs l (k + 1)) := okKs_succ hok ⟨by simpa [List.getElem?_eq_getElem hkl] using hkey, fun h => absurd h hk0⟩
            have HK := Lib.hid hkey
            clear hkey hc hok
            have hd : decide (0 < k) = false := by simpa using hk0
            go_wp2_with (go_at_call 199; refine (isKeyS_is _ _ _ HK.out).mono ?_; rintro e w' ⟨rfl, rfl⟩)
            go_roundw
            case rel => exact ⟨k + 1, by omega, by go_num, HO.out, hnx⟩
            case measure => simp [intOf]; omega
      · have HF : Hid (chkK l = 0) := chkK_good Hlen.out h200 (by rw [show n = k by omega]; exact hok)
        clear hok
        go_wp2
        go_ret
        exact ⟨ret_int (by rw [HF.out]), hnx⟩

end Go.Proofs.YtpnjnedfcdppaaaGreatDoor

/-
  THE TOWER: twelve rows of the call's own in one block. Nothing is walked here.
-/
namespace Go.Proofs.YtpnjnedfcdppaaaGreatDoor
open Go.RowKit

def rowAt (vs : List Value) (i : Nat) : Value := vs[i]?.getD (.slice none 0 0)
/-- the block g has twelve rows of numbers, each of the call's own, none on another -/
structure Tw (w : World) (base g t : Nat) (vs : List Value) (rows : Nat → List Int) : Prop where
  len : vs.length = 12
  low : g < base
  blk : w.heap[g]? = some (.cells vs.toArray t (0, 0))
  own : ∀ i, i < 12 → OwnI w base (rowAt vs i) (rows i)
  ne : ∀ i j b, i < 12 → j < 12 → (rowAt vs i).ownBlock = some b → (rowAt vs j).ownBlock = some b → i = j
theorem Tw.lt {w : World} {base g t : Nat} {vs : List Value} {rows : Nat → List Int} (h : Tw w base g t vs rows) : g < w.heap.size := by
  rcases Nat.lt_or_ge g w.heap.size with hlt | hge
  · exact hlt
  · have := h.blk; rw [Array.getElem?_eq_none hge] at this; cases this
theorem Tw.cell {w : World} {base g t : Nat} {vs : List Value} {rows : Nat → List Int} (h : Tw w base g t vs rows) (i : Nat) (hi : i < 12) : w.cell? ⟨g, i, none⟩ = some (rowAt vs i) := by
  have hl := h.len
  simp [World.cell?, h.blk, rowAt, List.getElem?_eq_getElem (show i < vs.length by omega)]
theorem Tw.frozen {w : World} {base g t : Nat} {vs : List Value} {rows : Nat → List Int} (h : Tw w base g t vs rows) (i : Nat) : w.frozen? ⟨g, i, none⟩ = false := by
  simp [World.frozen?, h.blk]
theorem Tw.below {w w' : World} {base g t : Nat} {vs : List Value} {rows : Nat → List Int} (h : Tw w base g t vs rows) (hb : Below w.heap.size w w') : Tw w' base g t vs rows :=
  ⟨h.len, h.low, (hb.block g h.lt).trans h.blk, fun i hi => own_below (h.own i hi) hb, h.ne⟩
theorem Tw.alloc {w : World} {base g t : Nat} {vs : List Value} {rows : Nat → List Int} (h : Tw w base g t vs rows) (o : Obj) : Tw (w.alloc o) base g t vs rows := h.below ((Below.refl _ _).alloc (Nat.le_refl _) o)
theorem Tw.congr {w : World} {base g t : Nat} {vs : List Value} {rows rows' : Nat → List Int} (h : Tw w base g t vs rows) (he : ∀ i, i < 12 → rows i = rows' i) : Tw w base g t vs rows' :=
  ⟨h.len, h.low, h.blk, fun i hi => he i hi ▸ h.own i hi, h.ne⟩

theorem own_set {w : World} {base e s n : Nat} {v : Value} {xs : List Value} (h : w.ownsRow base e s v n xs) {p : Addr} (hp : p.block < base) (u : Value) : (w.setCell p u).ownsRow base e s v n xs := by
  refine ⟨h.1, ?_⟩
  rcases h.2 with h0 | ⟨g, cap, cur, h1, h2, h3, h4⟩
  · exact .inl h0
  · exact .inr ⟨g, cap, cur, h1, h2, (Below.heap_setCell w p u g (by omega)).trans h3, h4⟩
theorem own_lt1 {w : World} {base e s n : Nat} {v : Value} {xs : List Value} (h : w.ownsRow base e s v n xs) : ∀ g, v.ownBlock = some g → g < w.heap.size := fun g hg => (h.lt g hg).2
theorem rowAt_set (vs : List Value) (r i : Nat) (v : Value) (hr : r < vs.length) : rowAt (vs.set r v) i = if i = r then v else rowAt vs i := by
  unfold rowAt
  rw [List.getElem?_set]
  by_cases h : r = i
  · subst h; simp [hr]
  · simp [h, Ne.symm h]
theorem cells_set' {w : World} {g t : Nat} {cs : List Value} (h : w.heap[g]? = some (.cells cs.toArray t (0, 0))) (i : Nat) (v : Value) : (w.setCell ⟨g, i, none⟩ v).heap[g]? = some (.cells (cs.set i v).toArray t (0, 0)) := by
  rw [setCell_eq_setRow w g i _ t (0, 0) v h, setRow_heap w g _ _ t (0, 0) h]
  simp
/-- a key is appended onto one row -/
theorem Tw.append {w w' : World} {base g t r : Nat} {vs : List Value} {rows : Nat → List Int} {v' : Value} {key : Int} (h : Tw w base g t vs rows) (hr : r < 12)
    (hown : OwnI w' base v' (rows r ++ [key])) (hg : w.grownBy w' (rowAt vs r).ownBlock) (hat : v'.ownBlock = (rowAt vs r).ownBlock ∨ v'.ownBlock = some w.heap.size) :
    Tw (w'.setCell ⟨g, r, none⟩ v') base g t (vs.set r v') (fun i => if i = r then rows r ++ [key] else rows i) := by
  have hl := h.len
  have hlow := h.low
  have keep : ∀ i, i < 12 → i ≠ r → OwnI w' base (rowAt vs i) (rows i) := fun i hi hne => by
    refine World.ownsRow.kept (h.own i hi) hg ?_
    cases hb : (rowAt vs i).ownBlock with
    | none => exact .inl rfl
    | some b =>
      right
      intro e
      exact hne (h.ne i r b hi hr hb e.symm)
  have hgb : w'.heap[g]? = some (.cells vs.toArray t (0, 0)) := by
    rw [hg.block g h.lt ?_]
    · exact h.blk
    · intro e
      have := own_ge1 (h.own r hr) g e.symm
      omega
  refine ⟨by simp [hl], hlow, cells_set' hgb r v', fun i hi => ?_, fun i j b hi hj h1 h2 => ?_⟩
  · rw [rowAt_set vs r i v' (by omega)]
    by_cases he : i = r
    · subst he
      simp only [if_true]
      exact own_set hown (by exact hlow) v'
    · rw [if_neg he, if_neg he]
      exact own_set (keep i hi he) (by exact hlow) v'
  · rw [rowAt_set vs r i v' (by omega)] at h1
    rw [rowAt_set vs r j v' (by omega)] at h2
    have new : ∀ i, i < 12 → i ≠ r → (rowAt vs i).ownBlock = some b → v'.ownBlock = some b → False := fun i hi hne e1 e2 => by
      rcases hat with e | e
      · rw [e] at e2
        exact hne (h.ne i r b hi hr e1 e2)
      · rw [e] at e2
        injection e2 with e2
        have := own_lt1 (h.own i hi) b e1
        omega
    by_cases hi' : i = r
    · by_cases hj' : j = r
      · omega
      · rw [if_pos hi'] at h1
        rw [if_neg hj'] at h2
        exact (new j hj hj' h2 h1).elim
    · by_cases hj' : j = r
      · rw [if_neg hi'] at h1
        rw [if_pos hj'] at h2
        exact (new i hi hi' h1 h2).elim
      · rw [if_neg hi'] at h1
        rw [if_neg hj'] at h2
        exact h.ne i j b hi hj h1 h2
/-- twelve rows without keys -/
def none12 : List Value := List.replicate 12 (.slice none 0 0)
theorem rowAt_none (i : Nat) : rowAt none12 i = .slice none 0 0 := by
  unfold rowAt none12
  rw [List.getElem?_replicate]
  split <;> rfl
theorem Tw.start {w : World} {base g t : Nat} (hg : g < base) (hb : w.heap[g]? = some (.cells none12.toArray t (0, 0))) : Tw w base g t none12 (fun _ => []) :=
  ⟨rfl, hg, hb, fun i _ => by rw [rowAt_none]; exact World.ownsRow_nil w base _ 1, fun i j b _ _ h => by rw [rowAt_none] at h; cases h⟩

/-- the rows while a key is laid: below r it stands -/
def rowsTo (l : List Int) (key : Int) (r i : Nat) : List Int := if i < r then rowL l i ++ [key] else rowL l i
theorem rowsTo_zero (l : List Int) (key : Int) (i : Nat) : rowsTo l key 0 i = rowL l i := by simp [rowsTo]
theorem rowsTo_succ (l : List Int) (key : Int) (r i : Nat) : (if i = r then rowsTo l key r r ++ [key] else rowsTo l key r i) = rowsTo l key (r + 1) i := by
  unfold rowsTo
  by_cases h : i = r
  · subst h; simp
  · rw [if_neg h]
    by_cases h2 : i < r
    · rw [if_pos h2, if_pos (by omega)]
    · rw [if_neg h2, if_neg (by omega)]
theorem rowsTo_end (l : List Int) (k : Nat) (hk : k < l.length) (i : Nat) : rowsTo (l.take k) l[k] (ht l[k]) i = rowL (l.take (k + 1)) i := by
  rw [List.take_succ_eq_append_getElem hk, rowL_append]
  rfl
theorem rowsTo_len (l : List Int) (key : Int) (r i : Nat) : (rowsTo l key r i).length ≤ l.length + 1 := by
  have := rowL_len l i
  unfold rowsTo
  split
  · simp; omega
  · omega
end Go.Proofs.YtpnjnedfcdppaaaGreatDoor
