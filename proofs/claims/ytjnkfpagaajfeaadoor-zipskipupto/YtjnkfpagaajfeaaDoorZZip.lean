/-
  package zip: zipped, isZipped.
-/
import Derived.Test.YtjnkfpagaajfeaaDoorZStand
import Derived.Test.YtjnkfpagaajfeaaDoorZConc
import Derived.Test.YtjnkfpagaajfeaaDoorSEq
namespace Go.Proofs.YtjnkfpagaajfeaaDoor
open Go.RowKit

theorem zrs_at {w : World} {b t : Nat} {s : Sl} (hb : w.heap[b]? = some (.cells #[s.val] t (0, 0))) (hs : s.ok w) : RS w (some ⟨b, 0, none⟩) 1 1 [s] := by
  have hlt : b < w.heap.size := by
    rcases Nat.lt_or_ge b w.heap.size with hlt | hge
    · exact hlt
    · rw [Array.getElem?_eq_none hge] at hb; cases hb
  refine ⟨rfl, ⟨Nat.le_refl _, fun _ => ⟨b, 0, rfl, hlt, fun i hi j hj => ?_⟩⟩, ?_⟩
  · obtain rfl : j = 0 := by omega
    obtain rfl : i = 0 := by omega
    rw [cell_of_row _ _ _ _ _ _ hb]
    rfl
  · intro x hx
    simp only [List.mem_cons, List.not_mem_nil, or_false] at hx
    subst hx
    exact hs
theorem zrs_one (w : World) (t : Nat) (s : Sl) (h : s.ok w) : RS (w.alloc (.cells #[s.val] t)) (some ⟨w.heap.size, 0, none⟩) 1 1 [s] := zrs_at (heap_alloc_new w _) (PS.alloc h _)
theorem zrs_two {w : World} {b t : Nat} {s1 s2 : Sl} (hb : w.heap[b]? = some (.cells #[s1.val, s2.val] t (0, 0))) (h1 : s1.ok w) (h2 : s2.ok w) : RS w (some ⟨b, 0, none⟩) 2 2 [s1, s2] := by
  have hlt : b < w.heap.size := by
    rcases Nat.lt_or_ge b w.heap.size with hlt | hge
    · exact hlt
    · rw [Array.getElem?_eq_none hge] at hb; cases hb
  refine ⟨rfl, ⟨Nat.le_refl _, fun _ => ⟨b, 0, rfl, hlt, fun i hi j hj => ?_⟩⟩, ?_⟩
  · obtain rfl : j = 0 := by omega
    rw [cell_of_row _ _ _ _ _ _ hb]
    rcases (show i = 0 ∨ i = 1 by omega) with rfl | rfl
    · rfl
    · rfl
  · intro s hs
    simp only [List.mem_cons, List.not_mem_nil, or_false] at hs
    rcases hs with rfl | rfl
    · exact h1
    · exact h2

/-- spots in new memory -/
def RetZ (L : PL) (n : Nat) (w : World) (e : Ending) (w' : World) : Prop := ∃ A c, e = .returned (.slice A n c) ∧ PS w' A n c L ∧ Below w.heap.size w w'

set_option maxRecDepth 100000 in
set_option maxHeartbeats 1000000 in
theorem zipped_any (A : Option Addr) (m c : Nat) (es : List Sl) (t : Tr) (w : World) (h : RS w A m c es) (hm : m ≤ 1000) (h1 : sumN es ≤ 1000) (ht : Hp t (zpl (kys (catL es)))) (hT : Tb w) :
    Calls Tryd.prog 31 #[.slice A m c] w (RetZ (t.sp 0) (sumN es) w) := by
  have HC := Lib.hid (ConcatZ_any A m c es w h hm h1)
  have hlen : (catL es).length = sumN es := catL_len es w h.each
  have hts : t.size = sumN es := by rw [← hp_len ht, zpl_kys_len, hlen]
  have HSL : Hid ((t.sp 0).length = sumN es) := by show _ = _; rw [sp_length, hts]
  have HP := Lib.hid ht
  have HT := Lib.hid hT
  have HLEN := Lib.hid hlen
  have hw0 := hT.lt
  obtain ⟨n, hn⟩ : ∃ n, sumN es = n := ⟨_, rfl⟩
  rw [hn] at HSL HLEN h1 ⊢
  clear h ht hT hlen hts hn
  go_enter Tryd.func31, Tryd.ntmps31
  go_wp2_with fail
  refine HC.out.mono ?_
  rintro e w1 ⟨v1, rfl, hown, hb1⟩
  have HB1 := Lib.hid hb1
  have hz1 := hb1.size
  have HT1 := Lib.hid (HT.out.next hb1)
  rcases Nat.eq_zero_or_pos n with h0 | h0
  · subst h0
    obtain ⟨A1, c1, rfl, hps, _⟩ := hown.ps
    rw [HLEN.out] at hps ⊢
    have hnil : t.sp 0 = [] := List.eq_nil_of_length_eq_zero HSL.out
    have HPS : Hid (PS w1 A1 0 c1 (t.sp 0)) := by show PS _ _ _ _ _; rw [hnil]; exact ⟨rfl, Rd.none_⟩
    clear hps hown hb1 HC hnil
    go_wp2_with fail
    refine (zstand_nil A1 c1 0 w1).mono ?_
    rintro e w2 ⟨rfl, rfl⟩
    go_wp2
    go_ret
    exact ⟨A1, c1, rfl, HPS.out, HB1.out⟩
  · obtain ⟨A1, c1, rfl, hps, _⟩ := hown.ps
    obtain ⟨g, rfl, hn1, hbg, hcap, hsb⟩ := hown.sb (by rw [HLEN.out]; exact h0)
    rw [HLEN.out] at hcap ⊢
    have HST := Lib.hid (zstand_any t g 0 n c1 [] (catL es) [] 0 w1 HP.out rfl HLEN.out (by simpa using hsb) hcap (by omega) (by omega) (Int.le_refl _) (by omega) HT1.out)
    clear hps hown hb1 HC hsb hn1
    go_wp2_with fail
    refine HST.out.mono ?_
    rintro e w2 ⟨rfl, hs2, hb2⟩
    have HPS : Hid (PS w2 (some ⟨g, 0, none⟩) n c1 (t.sp 0)) := by
      have hs3 : SB w2 g 43 (t.sp 0) := by simpa using hs2
      have := hs3.ps (c := c1) (by rw [HSL.out]; exact hcap)
      rwa [HSL.out] at this
    have HB2 := Lib.hid (HB1.out.trans (hb2.mono hbg))
    clear hs2 hb2 HST
    go_wp2
    go_ret
    exact ⟨_, c1, rfl, HPS.out, HB2.out⟩

/-- of one list -/
theorem zip1_any (A : Option Addr) (n c b : Nat) (l : PL) (t : Tr) (w : World) (ty : Nat) (hb : w.heap[b]? = some (.cells #[.slice A n c] ty (0, 0))) (h : PS w A n c l) (hn : n ≤ 1000) (ht : Hp t (zpl (kys l))) (hT : Tb w) :
    Calls Tryd.prog 31 #[.slice (some ⟨b, 0, none⟩) 1 1] w (RetZ (t.sp 0) n w) := by
  have hc : catL [⟨A, n, c, l⟩] = l := by simp [catL]
  have hs : sumN [⟨A, n, c, l⟩] = n := by simp [sumN]
  have := zipped_any (some ⟨b, 0, none⟩) 1 1 [⟨A, n, c, l⟩] t w (zrs_at hb h) (by omega) (by rw [hs]; exact hn) (by rw [hc]; exact ht) hT
  rw [hs] at this
  exact this

set_option maxRecDepth 100000 in
set_option maxHeartbeats 1000000 in
theorem isZipped_any (A : Option Addr) (n c : Nat) (l : PL) (t : Tr) (w : World) (h : PS w A n c l) (hn : n ≤ 1000) (ht : Hp t (zpl (kys l))) (hT : Tb w) (B : Bool) (hB : decide (l = t.sp 0) = B) :
    Calls Tryd.prog 38 #[.slice A n c] w fun e w' => e = .returned (.bool B) ∧ Below w.heap.size w w' := by
  have HZ : Hid (∀ o, o = Obj.cells #[.slice A n c] 23 → Calls Tryd.prog 31 #[.slice (some ⟨w.heap.size, 0, none⟩) 1 1] (w.alloc o) (RetZ (t.sp 0) n (w.alloc o))) := fun o ho => by
    subst ho
    exact zip1_any A n c w.heap.size l t _ _ (heap_alloc_new w _) (h.alloc _) hn ht (hT.next ((Below.refl _ _).alloc (Nat.le_refl _) _))
  have H := Lib.hid h
  have HB := Lib.hid hB
  clear h ht hT hB
  go_enter Tryd.func38, Tryd.ntmps38
  go_wp2_with fail
  refine (HZ.out _ rfl).mono ?_
  rintro e w1 ⟨A1, c1, rfl, hps, hb1⟩
  have hbx : Below w.heap.size w w1 := ((Below.refl _ _).alloc (Nat.le_refl _) _).trans (hb1.mono (by simp))
  have HB1 := Lib.hid hbx
  have HE := Lib.hid (eqSpot_any A A1 n n c c1 l (t.sp 0) w1 (H.out.below hbx) hps (by omega) (by omega))
  rw [HB.out] at HE
  clear hps hb1 hbx HZ HB
  go_wp2_with fail
  refine HE.out.mono ?_
  rintro e w2 ⟨rfl, hb2⟩
  have HB2 := Lib.hid (below_next HB1.out hb2)
  clear hb2
  go_wp2
  go_ret
  exact ⟨rfl, HB2.out⟩

end Go.Proofs.YtjnkfpagaajfeaaDoor
