/-
  Joined texts: YtpnjnedfcdppaaaGreatDoorZZip, YtpnjnedfcdppaaaGreatDoorZRun.
-/
import Derived.Test.YtpnjnedfcdppaaaGreatDoorZStand
import Derived.Test.YtpnjnedfcdppaaaGreatDoorZConcAll
import Derived.Test.YtpnjnedfcdppaaaGreatDoorEqTAll
import Derived.Test.YtpnjnedfcdppaaaGreatDoorRanksAll
/-
  package zip: zipped, isZipped.
-/
namespace Go.Proofs.YtpnjnedfcdppaaaGreatDoor
open Go.RowKit

theorem zrs_at {w : World} {b t : Nat} {s : Sl} (hb : w.heap[b]? = some (.cells #[s.val] t (0, 0))) (hs : s.ok w) : RS w (some ⟨b, 0, none⟩) 1 1 [s] := by
  have hlt : b < w.heap.size := by
    rcases Nat.lt_or_ge b w.heap.size with hlt | hge
    · exact hlt
    · rw [Array.getElem?_eq_none hge] at hb; cases hb
  refine ⟨rfl, ⟨Nat.le_refl _, fun _ => ⟨b, 0, rfl, hlt, fun i hi j hj => ?_⟩⟩, ?_⟩
  · obtain rfl : j = 0 := by omega
    obtain rfl : i = 0 := by omega
    rw [cell_of_row _ _ _ _ _ _ hb]
    rfl
  · intro x hx
    simp only [List.mem_cons, List.not_mem_nil, or_false] at hx
    subst hx
    exact hs
def RetZ (L : PL) (n : Nat) (w : World) (e : Ending) (w' : World) : Prop := ∃ A c, e = .returned (.slice A n c) ∧ PS w' A n c L ∧ Below w.heap.size w w'

set_option maxRecDepth 100000 in
set_option maxHeartbeats 1000000 in
theorem zipped_any (A : Option Addr) (m c : Nat) (es : List Sl) (t : Tr) (w : World) (h : RS w A m c es) (hm : m ≤ 1000) (h1 : sumN es ≤ 1000) (ht : Hp t (zpl (kys (catL es)))) (hT : Tb w) :
    Calls Tryz.prog 63 #[.slice A m c] w (RetZ (t.sp 0) (sumN es) w) := by
  have HC := Lib.hid (ConcatZ_any A m c es w h hm h1)
  have hlen : (catL es).length = sumN es := catL_len es w h.each
  have hts : t.size = sumN es := by rw [← hp_len ht, zpl_kys_len, hlen]
  have HSL : Hid ((t.sp 0).length = sumN es) := by show _ = _; rw [sp_length, hts]
  have HP := Lib.hid ht
  have HT := Lib.hid hT
  have HLEN := Lib.hid hlen
  have hw0 := hT.lt
  obtain ⟨n, hn⟩ : ∃ n, sumN es = n := ⟨_, rfl⟩
  rw [hn] at HSL HLEN h1 ⊢
  clear h ht hT hlen hts hn
  go_enter Tryz.func63, Tryz.ntmps63
  go_wp2_with fail
  refine HC.out.mono ?_
  rintro e w1 ⟨v1, rfl, hown, hb1⟩
  have HB1 := Lib.hid hb1
  have hz1 := hb1.size
  have HT1 := Lib.hid (HT.out.next hb1)
  rcases Nat.eq_zero_or_pos n with h0 | h0
  · subst h0
    obtain ⟨A1, c1, rfl, hps, _⟩ := hown.ps
    rw [HLEN.out] at hps ⊢
    have hnil : t.sp 0 = [] := List.eq_nil_of_length_eq_zero HSL.out
    have HPS : Hid (PS w1 A1 0 c1 (t.sp 0)) := by show PS _ _ _ _ _; rw [hnil]; exact ⟨rfl, Rd.none_⟩
    clear hps hown hb1 HC hnil
    go_wp2_with fail
    refine (zstand_nil A1 c1 0 w1).mono ?_
    rintro e w2 ⟨rfl, rfl⟩
    go_wp2
    go_ret
    exact ⟨A1, c1, rfl, HPS.out, HB1.out⟩
  · obtain ⟨A1, c1, rfl, hps, _⟩ := hown.ps
    obtain ⟨g, rfl, hn1, hbg, hcap, hsb⟩ := hown.sb (by rw [HLEN.out]; exact h0)
    rw [HLEN.out] at hcap ⊢
    have HST := Lib.hid (zstand_any t g 0 n c1 [] (catL es) [] 0 w1 HP.out rfl HLEN.out (by simpa using hsb) hcap (by omega) (by omega) (Int.le_refl _) (by omega) HT1.out)
    clear hps hown hb1 HC hsb hn1
    go_wp2_with fail
    refine HST.out.mono ?_
    rintro e w2 ⟨rfl, hs2, hb2⟩
    have HPS : Hid (PS w2 (some ⟨g, 0, none⟩) n c1 (t.sp 0)) := by
      have hs3 : SB w2 g 82 (t.sp 0) := by simpa using hs2
      have := hs3.ps (c := c1) (by rw [HSL.out]; exact hcap)
      rwa [HSL.out] at this
    have HB2 := Lib.hid (HB1.out.trans (hb2.mono hbg))
    clear hs2 hb2 HST
    go_wp2
    go_ret
    exact ⟨_, c1, rfl, HPS.out, HB2.out⟩

theorem zip1_any (A : Option Addr) (n c b : Nat) (l : PL) (t : Tr) (w : World) (ty : Nat) (hb : w.heap[b]? = some (.cells #[.slice A n c] ty (0, 0))) (h : PS w A n c l) (hn : n ≤ 1000) (ht : Hp t (zpl (kys l))) (hT : Tb w) :
    Calls Tryz.prog 63 #[.slice (some ⟨b, 0, none⟩) 1 1] w (RetZ (t.sp 0) n w) := by
  have hc : catL [⟨A, n, c, l⟩] = l := by simp [catL]
  have hs : sumN [⟨A, n, c, l⟩] = n := by simp [sumN]
  have := zipped_any (some ⟨b, 0, none⟩) 1 1 [⟨A, n, c, l⟩] t w (zrs_at hb h) (by omega) (by rw [hs]; exact hn) (by rw [hc]; exact ht) hT
  rw [hs] at this
  exact this

end Go.Proofs.YtpnjnedfcdppaaaGreatDoor

/-
  zip.Run.
-/
namespace Go.Proofs.YtpnjnedfcdppaaaGreatDoor
open Go.RowKit

theorem flat_set0 (l : PL) (i : Nat) (v : Int) (h : i < l.length) : (flat l).set (i * 2) (I v) = flat (l.set i (v, l[i].2)) := by
  induction l generalizing i with
  | nil => simp at h
  | cons p t ih => cases i with
    | zero => simp [flat]
    | succ i =>
      rw [show (i + 1) * 2 = i * 2 + 1 + 1 by omega]
      have := ih i (by simpa using h)
      simp [flat, this]
theorem PB.set0 {w : World} {g t : Nat} {L : PL} (h : PB w g t L) (i : Nat) (v : Int) (hi : i < L.length) : PB (w.setCell ⟨g, i * 2, none⟩ (I v)) g t (L.set i (v, L[i].2)) := by
  unfold PB at *
  rw [setCell_eq_setRow w g (i * 2) _ t (0, 0) (I v) h, setRow_heap w g _ _ t (0, 0) h, ← flat_set0 L i v hi]
  simp
def zsTo (l : PL) (k : Nat) : PL := (l.take k).map (fun p => (p.1, (0 : Int))) ++ List.replicate (l.length - k) (0, 0)
theorem zsTo_len (l : PL) (k : Nat) (h : k ≤ l.length) : (zsTo l k).length = l.length := by simp [zsTo]; omega
theorem zsTo_set (l : PL) (k : Nat) (h : k < l.length) : (zsTo l k).set k (l[k].1, (0 : Int)) = zsTo l (k + 1) := by
  unfold zsTo
  have h1 : ((l.take k).map (fun p => (p.1, (0 : Int)))).length = k := by simp; omega
  rw [List.set_append_right _ _ (by omega), h1, Nat.sub_self, List.take_succ_eq_append_getElem h, show l.length - k = l.length - (k + 1) + 1 by omega, List.replicate_succ]
  rw [List.map_append]
  simp only [List.set_cons_zero, List.map_cons, List.map_nil, List.append_assoc, List.cons_append, List.nil_append]
theorem zsTo_at (l : PL) (k : Nat) (h : k < l.length) : (zsTo l k)[k]? = some (0, 0) := by
  unfold zsTo
  have h1 : ((l.take k).map (fun p => (p.1, (0 : Int)))).length = k := by simp; omega
  rw [List.getElem?_append_right (by omega), h1, Nat.sub_self, show l.length - k = l.length - (k + 1) + 1 by omega, List.replicate_succ]
  rfl
theorem zsTo_all (l : PL) : kys (zsTo l l.length) = kys l := by
  unfold zsTo kys
  rw [List.take_of_length_le (Nat.le_refl _)]
  simp

def RetRunZ (L : PL) (n : Nat) (a : List An) (er : Int) (w : World) (e : Ending) (w' : World) : Prop :=
  ∃ A c A' n' c', e = .returned (.tuple #[.slice A n c, .slice A' n' c', I er]) ∧ PS w' A n c L ∧ AS w' A' n' c' a ∧ Below w.heap.size w w'

set_option maxRecDepth 100000 in
set_option maxHeartbeats 2000000 in
theorem RunZ_any (A : Option Addr) (n c : Nat) (ops : List OP) (t : Tr) (m : Nat) (w : World) (h : OS w A n c ops) (hn : n ≤ 300) (hl : (runR ops).1.length = m) (hm : m ≤ 200) (ht : Hp t (zpl (kys (runR ops).1))) (hT : Tb w) :
    Calls Tryz.prog 22 #[.slice A n c] w (RetRunZ (t.sp 0) m (runR ops).2 0 w) := by
  have HC := Lib.hid (Run_any A n c ops w h hn)
  have HT := Lib.hid hT
  have HP := Lib.hid ht
  obtain ⟨l, hll⟩ : ∃ l, (runR ops).1 = l := ⟨_, rfl⟩
  obtain ⟨an, han⟩ : ∃ an, (runR ops).2 = an := ⟨_, rfl⟩
  rw [hll] at HC hl HP
  rw [han] at HC ⊢
  clear h hT hll han ht
  go_enter Tryz.func22, Tryz.ntmps22
  go_wp2_with fail
  refine HC.out.mono ?_
  rintro e w1 ⟨A1, n1, c1, A2, n2, c2, rfl, hps, has, hb1⟩
  obtain rfl : n1 = m := by rw [← hps.len]; exact hl
  have HPS := Lib.hid hps
  have HL := Lib.hid hps.len
  have HAS := Lib.hid has
  have HB1 := Lib.hid hb1
  have hz1 := hb1.size
  have hmk := fun w => run_makeP (P := Tryz.prog) 41 82 Tryz.underlying41 gspot_info n1 (by omega) w
  clear hps has hb1 HC hl
  go_wp2
  go_loopw [25] (fun i wr => ∃ k : Nat, k ≤ n1 ∧ i = .int .i64 k ∧ PB wr w1.heap.size 82 (zsTo l k) ∧ Below w1.heap.size w1 wr) (fun i _ => n1 - (intOf i).toNat)
  case atStart => exact ⟨0, Nat.zero_le _, rfl, by have := PB.new w1 82 (List.replicate n1 (0, 0)); simpa [zsTo, HL.out] using this, (Below.refl _ _).alloc (Nat.le_refl _) _⟩
  case round =>
    obtain ⟨k, hk, rfl, hib, hnx⟩ := hrel
    by_cases hlt : k < n1
    · have hkl : k < l.length := by rw [HL.out]; exact hlt
      obtain ⟨b, off, rfl, hbw, hcs⟩ := HPS.out.at_ (by omega)
      obtain ⟨x, hx⟩ : ∃ x, l[k].1 = x := ⟨_, rfl⟩
      obtain ⟨y, hy⟩ : ∃ y, l[k].2 = y := ⟨_, rfl⟩
      have hc0 : wr.cell? ⟨b, off + k * 2, none⟩ = some (I x) := by rw [← hx]; exact (hnx.cell (by exact hbw)).trans (hcs k hlt).1
      have hc1 : wr.cell? ⟨b, off + k * 2 + 1, none⟩ = some (I y) := by rw [← hy]; exact (hnx.cell (by exact hbw)).trans (hcs k hlt).2
      have hl2 := zsTo_len l k (by omega)
      have hat := zsTo_at l k hkl
      have hkz : k < (zsTo l k).length := by omega
      rw [List.getElem?_eq_getElem hkz] at hat
      have hat2 := Option.some.inj hat
      have hcell : wr.cell? ⟨w1.heap.size, k * 2, none⟩ = some (I 0) := by
        rw [hib.cell, (flat_at (zsTo l k) k hkz).1, hat2]
      have hfz : wr.frozen? ⟨w1.heap.size, k * 2, none⟩ = false := hib.frozen _
      have hlt1 : w1.heap.size < wr.heap.size := hib.lt
      have hbl : b < wr.heap.size := Nat.lt_of_lt_of_le hbw hnx.size
      have HIB := Lib.hid hib
      have HNX := Lib.hid hnx
      have HSET : Hid (∀ w2, PB w2 w1.heap.size 82 (zsTo l k) → PB (w2.setCell ⟨w1.heap.size, k * 2, none⟩ (I x)) w1.heap.size 82 (zsTo l (k + 1))) := fun w2 h2 => by
        have := h2.set0 k x hkz
        rw [hat2, ← hx, zsTo_set l k hkl, hx] at this
        exact this
      clear hib hnx hcs hl2 hx hy hat hat2 hkz
      go_wp2
      go_roundw
      case rel => exact ⟨k + 1, by omega, by go_num, (HSET.out wr HIB.out).below ((Below.refl _ _).alloc (Nat.le_refl _) _) (HSET.out wr HIB.out).lt, (HNX.out.setCell (Nat.le_refl _) _).alloc (by simpa [World.setCell] using HNX.out.size) _⟩
      case measure => simp [intOf]; omega
    · have HIS : Hid (PS wr (some ⟨w1.heap.size, 0, none⟩) n1 n1 (zsTo l n1)) := by
        obtain rfl : k = n1 := by omega
        have hl := zsTo_len l k (by rw [HL.out]; exact Nat.le_refl _)
        rw [HL.out] at hl
        have := hib.ps (c := k) (by omega)
        rw [hl] at this
        exact this
      have HP2 : Hid (Hp t (zpl (kys (zsTo l n1)))) := by
        have := zsTo_all l
        rw [HL.out] at this
        show Hp _ _
        rw [this]
        exact HP.out
      have HTR := Lib.hid ((HT.out.next HB1.out).next hnx)
      have HZ : Hid (∀ o, o = Obj.cells #[.slice (some ⟨w1.heap.size, 0, none⟩) n1 n1] 41 → Calls Tryz.prog 63 #[.slice (some ⟨wr.heap.size, 0, none⟩) 1 1] (wr.alloc o) (RetZ (t.sp 0) n1 (wr.alloc o))) := fun o ho => by
        subst ho
        exact zip1_any _ n1 n1 wr.heap.size _ t _ _ (heap_alloc_new wr _) (HIS.out.alloc _) (by omega) HP2.out (HTR.out.next ((Below.refl _ _).alloc (Nat.le_refl _) _))
      have HNX := Lib.hid hnx
      clear hib hnx
      go_wp2_with fail
      refine (HZ.out _ rfl).mono ?_
      rintro e w3 ⟨A3, c3, rfl, hps3, hb3⟩
      have hbx : Below wr.heap.size wr w3 := ((Below.refl _ _).alloc (Nat.le_refl _) _).trans (hb3.mono (by simp))
      have HPS3 := Lib.hid hps3
      have HB13 := Lib.hid (HNX.out.trans (hbx.mono HNX.out.size))
      have HB3 := Lib.hid (HB1.out.trans (HB13.out.mono hz1))
      clear hps3 hb3 hbx HZ
      go_wp2
      go_ret3
      exact ⟨A3, c3, A2, n2, c2, rfl, HPS3.out, HAS.out.below HB13.out, HB3.out⟩
end Go.Proofs.YtpnjnedfcdppaaaGreatDoor
