/-
  hedgtop.TopTurns$1: turned at one key behind the other; a row of numbers in memory, with spare room.
-/
import Derived.Test.YtpnjnedfcdppaaaGreatDoorVTurn
import Derived.Test.YtpnjnedfcdppaaaGreatDoorVVine2All
import Derived.Test.YtpnjnedfcdppaaaGreatDoorSOrdAll
import Derived.Test.YtpnjnedfcdppaaaGreatDoorInts
import Derived.Deep.LoopGhost
import Derived.Deep.DeepCutAuto
import Derived.Deep.RegionWith
namespace Go.Proofs.YtpnjnedfcdppaaaGreatDoor
open Go.RowKit

theorem tixK_own {l : PL} (h : upTo l l.length) {j : Nat} (hj : j < l.length) : ixK l (ky l j) = j :=
  ixK_hit hj rfl (fun i hi e => by have := up_lt h i j hi hj; omega)
theorem ttns_cons {l m : PL} {k : Int} {ks : List Int} (h : Tns l (k :: ks) m) : ∃ i, i < l.length ∧ ky l i = k ∧ dp l i ≠ 0 ∧ Tns (turnL l i) ks m := by
  cases h with
  | cons h1 h2 h3 h4 => exact ⟨_, h1, h2, h3, h4⟩
theorem ttns_nil {l m : PL} (h : Tns l [] m) : l = m := by cases h; rfl
def RetTd (F : PL) (n : Nat) (w : World) (e : Ending) (w' : World) : Prop := ∃ A c, e = .returned (.tuple #[.slice A n c, .bool true]) ∧ PS w' A n c F ∧ Below w.heap.size w w'
set_option maxRecDepth 100000 in
set_option maxHeartbeats 4000000 in
theorem turned_any (A K : Option Addr) (n c m d : Nat) (t : Tr) (w : World) (h : PS w A n c (t.sp 0)) (hT : IsTree (t.sp 0)) (hK : IS w K m d (vks t)) :
    Calls Tryz.prog 40 #[.slice A n c, .slice K m d] w (RetTd (vsp [] 0 t.ks) n w) := by
  have hn : n ≤ 200 := by rw [← h.len]; exact hT.1
  have hsz : t.size = n := by rw [← sp_length t 0, h.len]
  have H := Lib.hid h
  have HT := Lib.hid hT
  have HSZ := Lib.hid hsz
  have HTN := Lib.hid (vine_turns t)
  have hm : (vks t).length = m := hK.len
  have hvl := vks_less t
  rw [hm, hsz] at hvl
  have HM := Lib.hid hm
  have HI2 := Lib.hid hK
  have hm2 : m ≤ 200 := by omega
  obtain ⟨F, hF⟩ : ∃ F, vsp [] 0 t.ks = F := ⟨_, rfl⟩
  rw [hF] at HTN
  rw [hF]
  clear h hT hsz hm hvl hK hF
  go_enter Tryz.func40, Tryz.ntmps40
  go_wp2
  go_loopg [0, 12] m (fun k s i wr => ∃ (j : Nat) (L : PL) (A' : Option Addr) (c' : Nat), i = .int .i64 j ∧ j ≤ m ∧ m - j ≤ k ∧ s = .slice A' n c' ∧ L.length = n ∧ IsTree L ∧ PS wr A' n c' L ∧ Tns L ((vks t).drop j) F ∧ Below w.heap.size w wr)
  case atStart => exact ⟨0, t.sp 0, A, c, rfl, Nat.zero_le _, by omega, rfl, by rw [sp_length, HSZ.out], HT.out, H.out, HTN.out, Below.refl _ _⟩
  case round =>
    obtain ⟨j, L, A', c', rfl, hj, hjk, rfl, hL, hLT, hps, htn, hb⟩ := hrel
    have HPS := Lib.hid hps
    have HLT := Lib.hid hLT
    have HL := Lib.hid hL
    have HBW := Lib.hid hb
    have HTN2 := Lib.hid htn
    clear hL hLT hps htn hb
    by_cases hjm : j < m
    · obtain ⟨b1, off1, rfl, hb1, hcs1⟩ := (HI2.out.below HBW.out).at_ (by omega)
      have hjl : j < (vks t).length := by rw [HM.out]; exact hjm
      obtain ⟨key, hkey⟩ : ∃ key, (vks t)[j] = key := ⟨_, rfl⟩
      have hck : wr.cell? ⟨b1, off1 + j, none⟩ = some (I key) := by rw [hcs1 j hjm, hkey]
      have htd := HTN2.out
      rw [List.drop_eq_getElem_cons hjl, hkey] at htd
      obtain ⟨p, hp, hpk, hpd, htn2⟩ := ttns_cons htd
      have hix : ixK L key = p := by rw [← hpk]; exact tixK_own HLT.out.2.1 hp
      rw [HL.out] at hp
      have HTU := Lib.hid (Turn_ok A' n c' p L key wr HPS.out HLT.out hix hp hpd)
      obtain ⟨_, _, htdd⟩ := turned_of HLT.out (by rw [HL.out]; exact hp : p < L.length) hpd
      have HTL := Lib.hid (htdd.len.trans HL.out)
      have HTT := Lib.hid htdd.tree
      have HTN3 := Lib.hid htn2
      clear hcs1 hkey htd htn2 hix hpk hpd htdd hp
      go_wp2_with fail
      refine HTU.out.mono ?_
      rintro e w5 ⟨A5, n5, c5, rfl, hps5, hb5, -⟩
      obtain rfl : n5 = n := by rw [← hps5.len, HTL.out]
      have HPS5 := Lib.hid hps5
      have HB5 := Lib.hid (below_on HBW.out hb5)
      clear hps5 hb5
      go_wp2
      go_roundg (m - (j + 1))
      case measure => omega
      case rel => exact ⟨j + 1, turnL L p, A5, c5, by go_num, by omega, Nat.le_refl _, rfl, HTL.out, HTT.out, HPS5.out, HTN3.out, HB5.out⟩
    · have hdr : (vks t).drop j = [] := List.drop_of_length_le (by rw [HM.out]; omega)
      have htd := HTN2.out
      rw [hdr] at htd
      have hLF := ttns_nil htd
      subst hLF
      clear hdr htd
      go_wp2
      go_ret2
      exact ⟨A', c', rfl, HPS.out, HBW.out⟩
/-- a row of numbers, with spare room -/
def IR (w : World) (g : Nat) (L : List Int) : Prop := ∃ more : List Value, w.heap[g]? = some (.cells (L.map I ++ more).toArray 3 (0, 0))
theorem IR.lt {w : World} {g : Nat} {L : List Int} (h : IR w g L) : g < w.heap.size := by
  obtain ⟨m, h⟩ := h
  exact (Array.getElem?_eq_some_iff.1 h).1
theorem IR.cell {w : World} {g : Nat} {L : List Int} (h : IR w g L) (i : Nat) (hi : i < L.length) : w.cell? ⟨g, i, none⟩ = some (I L[i]) := by
  obtain ⟨m, h⟩ := h
  rw [cell_of_row _ _ _ _ _ _ h]
  simp [List.getElem?_append_left, hi]
theorem IR.frozen {w : World} {g : Nat} {L : List Int} (h : IR w g L) (i : Nat) : w.frozen? ⟨g, i, none⟩ = false := by
  obtain ⟨m, h⟩ := h
  simp [World.frozen?, h]
theorem IR.is_ {w : World} {g c : Nat} {L : List Int} (h : IR w g L) (hc : L.length ≤ c) : IS w (some ⟨g, 0, none⟩) L.length c L := by
  refine ⟨rfl, hc, fun hn => ⟨g, 0, rfl, h.lt, fun i hi j hj => ?_⟩⟩
  obtain rfl : j = 0 := by omega
  have e : (⟨g, 0 + (i * 1 + 0), none⟩ : Addr) = ⟨g, i, none⟩ := by congr 1; omega
  rw [e, h.cell i hi]
  simp [List.getElem?_eq_getElem hi]
theorem IR.set {w : World} {g : Nat} {L : List Int} (h : IR w g L) (i : Nat) (hi : i < L.length) (v : Int) : IR (w.setCell ⟨g, i, none⟩ (I v)) g (L.set i v) := by
  obtain ⟨m, h⟩ := h
  refine ⟨m, ?_⟩
  rw [setCell_eq_setRow w g i _ 3 (0, 0) (I v) h, setRow_heap w g _ _ 3 (0, 0) h]
  simp [List.map_set, List.set_append_left, hi]
theorem OwnI.row {w : World} {base : Nat} {v : Value} {L : List Int} (h : OwnI w base v L) : (v = .slice none 0 0 ∧ L = []) ∨ ∃ g c, v = .slice (some ⟨g, 0, none⟩) L.length c ∧ base ≤ g ∧ L.length ≤ c ∧ IR w g L := by
  rcases h.2 with ⟨e, h0⟩ | ⟨g, cap, cur, e, hb, hc, hn, hm, hsz, htk⟩
  · exact .inl ⟨e, List.eq_nil_of_length_eq_zero h0⟩
  · refine .inr ⟨g, cap, e, hb, hn, cur.toList.drop L.length, ?_⟩
    rw [Nat.mul_one] at htk
    rw [← htk, List.take_append_drop]
    exact hc
end Go.Proofs.YtpnjnedfcdppaaaGreatDoor
