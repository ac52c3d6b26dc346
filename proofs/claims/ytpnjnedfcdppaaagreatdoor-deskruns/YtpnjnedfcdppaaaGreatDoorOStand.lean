/-
  package goat: stand, Even.
-/
import Derived.Test.YtpnjnedfcdppaaaGreatDoorOIns2All
import Derived.Test.YtpnjnedfcdppaaaGreatDoorOSpotsAll
import Derived.Test.YtpnjnedfcdppaaaGreatDoorSOrdAll
import Derived.Test.YtpnjnedfcdppaaaGreatDoorSChkAll
import Derived.Test.YtpnjnedfcdppaaaGreatDoorKKeysAll
import Derived.Test.YtpnjnedfcdppaaaGreatDoorKRef4All
import Derived.Deep.LoopGhost
namespace Go.Proofs.YtpnjnedfcdppaaaGreatDoor
open Go.RowKit

theorem RB.part {w : World} {g t cap c : Nat} {pre mid post : PL} (h : RB w g t cap (pre ++ mid ++ post)) (hc : mid.length ≤ c) : PS w (some ⟨g, pre.length * 2, none⟩) mid.length c mid := by
  have h1 := h.ps
  have h2 := h1.drop (c' := (pre ++ mid ++ post).length) pre.length (by simp) (some ⟨g, pre.length * 2, none⟩) (fun _ b off e => by cases e; simp) (by omega)
  have h3 := h2.take mid.length (by simp)
  have e : ((pre ++ mid ++ post).drop pre.length).take mid.length = mid := by
    rw [List.append_assoc, List.drop_left, List.take_left]
  rw [e] at h3
  exact ⟨h3.len, hc, h3.rd.2⟩
theorem oset_mid (pre ma mb post : PL) (k d0 d : Int) : (pre ++ (ma ++ (k, d0) :: mb) ++ post).set (pre.length + ma.length) (k, d) = pre ++ ma ++ ((k, d) :: mb ++ post) := by
  have e : pre ++ (ma ++ (k, d0) :: mb) ++ post = (pre ++ ma) ++ ((k, d0) :: (mb ++ post)) := by simp
  rw [e, List.set_append_right _ _ (by simp)]
  simp
theorem oky_mid2 (pre ma mb post : PL) (k d0 : Int) : ky (pre ++ (ma ++ (k, d0) :: mb) ++ post) (pre.length + ma.length) = k := by
  have e : pre ++ (ma ++ (k, d0) :: mb) ++ post = (pre ++ ma) ++ ((k, d0) :: (mb ++ post)) := by simp
  have := ky_mid (pre ++ ma) (mb ++ post) (k, d0)
  rw [List.length_append] at this
  rw [e]
  exact this
theorem ev_mid (ma mb : PL) (k d0 : Int) (h : ma.length = (ma.length + 1 + mb.length) / 2) : ev (kys (ma ++ (k, d0) :: mb)) = .node (ev (kys ma)) k (ev (kys mb)) := by
  have hl : (kys (ma ++ (k, d0) :: mb)).length = ma.length + 1 + mb.length := by simp [kys]; omega
  have hk : kys (ma ++ (k, d0) :: mb) = kys ma ++ k :: kys mb := by simp [kys]
  have hml : (kys ma).length = ma.length := kys_len ma
  rw [ev_eq (by rw [hk]; simp), hl, ← h, hk]
  have e1 : (kys ma ++ k :: kys mb).take ma.length = kys ma := by rw [← hml, List.take_left]
  have e2 : (kys ma ++ k :: kys mb).drop (ma.length + 1) = kys mb := by
    rw [← hml, show kys ma ++ k :: kys mb = (kys ma ++ [k]) ++ kys mb by simp, show (kys ma).length + 1 = (kys ma ++ [k]).length by simp, List.drop_left]
  have e3 : (kys ma ++ k :: kys mb)[ma.length]?.getD 0 = k := by rw [← hml]; simp
  rw [e1, e2, e3]
theorem osplit (mid : PL) (h : 0 < mid.length) : ∃ ma k d0 mb, mid = ma ++ (k, d0) :: mb ∧ ma.length = mid.length / 2 := by
  have hm : mid.length / 2 < mid.length := by omega
  refine ⟨mid.take (mid.length / 2), mid[mid.length / 2].1, mid[mid.length / 2].2, mid.drop (mid.length / 2 + 1), ?_, by rw [List.length_take]; omega⟩
  rw [show (mid[mid.length / 2].1, mid[mid.length / 2].2) = mid[mid.length / 2] from rfl, ← List.drop_eq_getElem_cons hm, List.take_append_drop]

theorem ostand_nil (A : Option Addr) (c : Nat) (d : Int) (w : World) :
    Calls Tryz.prog 67 #[.slice A 0 c, I d] w fun e w' => e = .returned (.tuple #[]) ∧ w' = w := by
  go_enter Tryz.func67, Tryz.ntmps67
  go_wp2
  refine bodyPost_ret (results_none rfl _ _ _) rfl ?_
  exact ⟨rfl, rfl⟩

def RetRB (g cap : Nat) (L : PL) (w : World) (e : Ending) (w' : World) : Prop := e = .returned (.tuple #[]) ∧ RB w' g 82 cap L ∧ Below g w w'

set_option maxRecDepth 100000 in
set_option maxHeartbeats 4000000 in
theorem ostand_any (cap : Nat) : ∀ (m g x n c : Nat) (pre mid post : PL) (d : Int) (w : World), n ≤ m → pre.length = x → mid.length = n → RB w g 82 cap (pre ++ mid ++ post) → n ≤ c → x + n ≤ 1000 → 0 ≤ d → d + n ≤ 1000 →
    Calls Tryz.prog 67 #[.slice (some ⟨g, x * 2, none⟩) n c, I d] w (RetRB g cap (pre ++ (ev (kys mid)).sp d ++ post) w) := by
  intro m
  induction m with
  | zero =>
    intro g x n c pre mid post d w hm hx hn h hc hxn hd hd2
    obtain rfl : n = 0 := by omega
    have hmid : mid = [] := List.eq_nil_of_length_eq_zero hn
    subst hmid
    refine (ostand_nil _ c d w).mono ?_
    rintro e w' ⟨rfl, rfl⟩
    exact ⟨rfl, h, Below.refl _ _⟩
  | succ m ih =>
    intro g x n c pre mid post d w hm hx hn h hc hxn hd hd2
    rcases Nat.eq_zero_or_pos n with h0 | h0
    · subst h0
      have hmid : mid = [] := List.eq_nil_of_length_eq_zero hn
      subst hmid
      refine (ostand_nil _ c d w).mono ?_
      rintro e w' ⟨rfl, rfl⟩
      exact ⟨rfl, h, Below.refl _ _⟩
    · obtain ⟨ma, k, d0, mb, rfl, hma⟩ := osplit mid (by omega)
      rw [hn] at hma
      have hlen : ma.length + 1 + mb.length = n := by rw [← hn]; simp; omega
      have hev := ev_mid ma mb k d0 (by rw [hlen]; exact hma)
      obtain ⟨y, hy⟩ : ∃ y, n / 2 = y := ⟨_, rfl⟩
      rw [hy] at hma
      have hya : ma.length = y := hma
      have hfz : w.frozen? ⟨g, x * 2 + y * 2 + 1, none⟩ = false := h.sb.frozen _
      obtain ⟨old, hcell⟩ : ∃ old, w.cell? ⟨g, x * 2 + y * 2 + 1, none⟩ = some (I old) := by
        have := (h.sb.cell (x + y) (by simp; omega)).2
        rw [Nat.add_mul] at this
        exact ⟨_, this⟩
      have HSET : Hid (RB (w.setCell ⟨g, x * 2 + y * 2 + 1, none⟩ (I d)) g 82 cap (pre ++ ma ++ ((k, d) :: mb ++ post))) := by
        have := h.set1 (x + y) d (by simp; omega)
        rw [← hx, ← hya, oky_mid2, oset_mid, hx, hya, Nat.add_mul] at this
        exact this
      have IHA : Hid (∀ w', RB w' g 82 cap (pre ++ ma ++ ((k, d) :: mb ++ post)) → Calls Tryz.prog 67 #[.slice (some ⟨g, x * 2, none⟩) y c, I (d + 1)] w' (RetRB g cap (pre ++ (ev (kys ma)).sp (d + 1) ++ ((k, d) :: mb ++ post)) w')) := fun w' hs =>
        ih g x y c pre ma ((k, d) :: mb ++ post) (d + 1) w' (by omega) hx hya hs (by omega) (by omega) (by omega) (by omega)
      have IHB : Hid (∀ w' sp c', RB w' g 82 cap (pre ++ (ev (kys ma)).sp (d + 1) ++ ((k, d) :: mb ++ post)) → (y + 1 < n → sp = some ⟨g, x * 2 + (y + 1) * 2, none⟩) → n - (y + 1) ≤ c' →
          Calls Tryz.prog 67 #[.slice sp ((n - (y + 1) : Nat)) c', I (d + 1)] w' (RetRB g cap (pre ++ (ev (kys (ma ++ (k, d0) :: mb))).sp d ++ post) w')) := fun w' sp c' hs hsp hc' => by
        have hsa : (ev (kys ma)).size = y := by rw [ev_size, kys_len]; exact hya
        have hfin : ∀ q : PL, pre ++ (ev (kys ma)).sp (d + 1) ++ [(k, d)] ++ q ++ post = pre ++ (ev (kys ma)).sp (d + 1) ++ ((k, d) :: q ++ post) := fun q => by simp
        have e : pre ++ (ev (kys (ma ++ (k, d0) :: mb))).sp d ++ post = pre ++ (ev (kys ma)).sp (d + 1) ++ ((k, d) :: (ev (kys mb)).sp (d + 1) ++ post) := by rw [hev]; simp [Tr.sp]
        rw [e]
        rcases Nat.eq_zero_or_pos mb.length with h1 | h1
        · have hmb : mb = [] := List.eq_nil_of_length_eq_zero h1
          subst hmb
          have : n - (y + 1) = 0 := by simp at hlen; omega
          rw [this]
          refine (ostand_nil sp c' (d + 1) w').mono ?_
          rintro e w2 ⟨rfl, rfl⟩
          exact ⟨rfl, hs, Below.refl _ _⟩
        · rw [hsp (by omega), show n - (y + 1) = mb.length by omega, show x * 2 + (y + 1) * 2 = (x + y + 1) * 2 by omega]
          have := ih g (x + y + 1) mb.length c' (pre ++ (ev (kys ma)).sp (d + 1) ++ [(k, d)]) mb post (d + 1) w' (by omega) (by simp [sp_length, hsa, hx]; omega) rfl (by rw [hfin]; exact hs) (by omega) (by omega) (by omega) (by omega)
          rw [hfin] at this
          exact this
      have hlt := h.lt
      have hn0 : ((n : Int) == 0) = false := by simp; omega
      have hyn : y < n := by omega
      have hyc : y + 1 ≤ n := by omega
      have hnz : ¬ n = 0 := by omega
      have hq1 : (n : Int) / 2 = (y : Int) := by omega
      have hq2 : (n : Int).tdiv 2 = (y : Int) := by rw [Int.tdiv_eq_ediv_of_nonneg (by omega)]; exact hq1
      clear ih h hn hx hy hma hya hev hlen hm
      go_enter Tryz.func67, Tryz.ntmps67
      go_wp2_with fail
      refine (IHA.out _ HSET.out).mono ?_
      rintro e w2 ⟨rfl, hs2, hb2⟩
      have HS2 := Lib.hid hs2
      have HB2 : Hid (Below g w w2) := ((Below.refl _ _).setCell (B := g) (p := ⟨g, x * 2 + y * 2 + 1, none⟩) (Nat.le_refl _) (I d)).trans hb2
      clear hs2 hb2 hcell hfz
      go_wp2_with fail
      all_goals
        refine (IHB.out _ _ _ HS2.out (by intro hlt; first | rfl | (exfalso; omega)) (by omega)).mono ?_
        rintro e w3 ⟨rfl, hs3, hb3⟩
        have HS3 := Lib.hid hs3
        have HB3 := Lib.hid (HB2.out.trans hb3)
        clear hs3 hb3
        go_wp2
        go_end0
        exact ⟨rfl, HS3.out, HB3.out⟩

def esTo (l : List Int) (k : Nat) : PL := (l.take k).map (fun x => (x, (0 : Int))) ++ List.replicate (l.length - k) (0, 0)
theorem esTo_len (l : List Int) (k : Nat) (h : k ≤ l.length) : (esTo l k).length = l.length := by simp [esTo]; omega
theorem esTo_set (l : List Int) (k : Nat) (h : k < l.length) : (esTo l k).set k (l[k], dp (esTo l k) k) = esTo l (k + 1) := by
  have h1 : ((l.take k).map (fun x => (x, (0 : Int)))).length = k := by simp; omega
  have hd : dp (esTo l k) k = 0 := by
    unfold esTo
    rw [dp_right (by omega), h1, Nat.sub_self, show l.length - k = l.length - (k + 1) + 1 by omega, List.replicate_succ]
    rfl
  rw [hd]
  unfold esTo
  rw [List.set_append_right _ _ (by omega), h1, Nat.sub_self, List.take_succ_eq_append_getElem h, show l.length - k = l.length - (k + 1) + 1 by omega, List.replicate_succ, List.set_cons_zero, List.map_append, List.append_assoc]
  rfl
theorem esTo_all (l : List Int) : esTo l l.length = l.map (fun x => (x, (0 : Int))) := by simp [esTo]
theorem kys_es (l : List Int) : kys (l.map (fun x => (x, (0 : Int)))) = l := by simp [kys, Function.comp_def]

def RetEv (L : PL) (n : Nat) (w : World) (e : Ending) (w' : World) : Prop := ∃ A c, e = .returned (.tuple #[.slice A n c, I 0]) ∧ PS w' A n c L ∧ Below w.heap.size w w'

set_option maxRecDepth 100000 in
set_option maxHeartbeats 4000000 in
theorem Even_ok (A : Option Addr) (n c : Nat) (l : List Int) (w : World) (h : IS w A n c l) (hR : Rise l) (hT : Tb w) :
    Calls Tryz.prog 28 #[.slice A n c] w (RetEv ((ev l).sp 0) n w) := by
  have hn : n ≤ 200 := by rw [← h.len]; exact hR.len
  have HRW := Lib.hid (Rows_ok A n c l w h hR hT)
  have H := Lib.hid h
  have HL := Lib.hid h.len
  have hmk := fun w => run_makeP (P := Tryz.prog) 41 82 Tryz.underlying41 gspot_info n (by omega) w
  clear h hR hT
  go_enter Tryz.func28, Tryz.ntmps28
  go_wp2_with fail
  refine HRW.out.mono ?_
  rintro e w1 ⟨A1, m1, c1, rfl, _, hb1⟩
  have HB1 := Lib.hid hb1
  have H1 := Lib.hid (H.out.below hb1)
  have hz1 := hb1.size
  clear hb1
  go_wp2
  go_loopw [22] (fun i wr => ∃ k : Nat, k ≤ n ∧ i = .int .i64 k ∧ RB wr w1.heap.size 82 n (esTo l k) ∧ Below w1.heap.size w1 wr) (fun i _ => n - (intOf i).toNat)
  case atStart =>
    refine ⟨0, Nat.zero_le _, rfl, ?_, (Below.refl _ _).alloc (Nat.le_refl _) _⟩
    have := (PB.new w1 82 (List.replicate n (0, 0))).rb
    simp only [List.length_replicate] at this
    have e : esTo l 0 = List.replicate n (0, 0) := by simp [esTo, HL.out]
    rw [e]
    exact this
  case round =>
    obtain ⟨k, hk, rfl, hrb, hnx⟩ := hrel
    by_cases hlt : k < n
    · have hkl : k < l.length := by rw [HL.out]; exact hlt
      obtain ⟨b, off, rfl, hb, hc⟩ := H1.out.at_ (by omega)
      have hck : wr.cell? ⟨b, off + k, none⟩ = some (I l[k]) := (hnx.cell (by exact hb)).trans (hc k hlt)
      have hel : (esTo l k).length = l.length := esTo_len l k (by omega)
      have hfz : wr.frozen? ⟨w1.heap.size, k * 2, none⟩ = false := hrb.sb.frozen _
      obtain ⟨old, hcell⟩ : ∃ old, wr.cell? ⟨w1.heap.size, k * 2, none⟩ = some (I old) := ⟨_, (hrb.sb.cell k (by omega)).1⟩
      have HSET : Hid (RB (wr.setCell ⟨w1.heap.size, k * 2, none⟩ (I l[k])) w1.heap.size 82 n (esTo l (k + 1))) := by
        have := hrb.set0 k l[k] (by omega)
        rw [esTo_set l k hkl] at this
        exact this
      have HNX := Lib.hid hnx
      have hsz := hnx.size
      have hbw : b < wr.heap.size := by omega
      clear hc hrb hnx hel
      generalize l[k] = x at *
      go_wp2
      go_roundw
      case rel => exact ⟨k + 1, by omega, by go_num, HSET.out, HNX.out.setCell (Nat.le_refl _) _⟩
      case measure => simp [intOf]; omega
    · obtain rfl : k = n := by omega
      have HST : Hid (Calls Tryz.prog 67 #[.slice (some ⟨w1.heap.size, 0, none⟩) k k, I 0] wr (RetRB w1.heap.size k ((ev l).sp 0) wr)) := by
        have h1 : RB wr w1.heap.size 82 k ([] ++ l.map (fun x => (x, (0 : Int))) ++ []) := by
          rw [List.nil_append, List.append_nil, ← esTo_all, HL.out]
          exact hrb
        have := ostand_any k k w1.heap.size 0 k k [] (l.map (fun x => (x, (0 : Int)))) [] 0 wr (Nat.le_refl _) rfl (by simp [HL.out]) h1 (Nat.le_refl _) (by omega) (Int.le_refl _) (by omega)
        rw [kys_es, List.nil_append, List.append_nil] at this
        exact this
      have HLN : Hid (((ev l).sp 0).length = k) := by show _ = _; rw [sp_length, ev_size]; exact HL.out
      have HNX := Lib.hid hnx
      clear hrb hnx
      go_wp2_with fail
      refine HST.out.mono ?_
      rintro e w2 ⟨rfl, hs2, hb2⟩
      have HPS := Lib.hid hs2.ps
      have HB2 := Lib.hid (HB1.out.trans ((HNX.out.trans hb2).mono hz1))
      rw [HLN.out] at HPS
      clear hs2 hb2
      go_wp2
      go_ret2
      exact ⟨_, k, rfl, HPS.out, HB2.out⟩

end Go.Proofs.YtpnjnedfcdppaaaGreatDoor
