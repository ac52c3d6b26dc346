/-
  Joined texts: YtpnjnedfcdppaaaGreatDoorDWay, YtpnjnedfcdppaaaGreatDoorDWay2, YtpnjnedfcdppaaaGreatDoorDWay3.
-/
import Derived.Test.YtpnjnedfcdppaaaGreatDoorDAns
import Derived.Test.YtpnjnedfcdppaaaGreatDoorKRef4All
import Derived.Test.YtpnjnedfcdppaaaGreatDoorGRefGAll
import Derived.Test.YtpnjnedfcdppaaaGreatDoorZRunAll
import Derived.Test.YtpnjnedfcdppaaaGreatDoorORunAll
import Derived.Test.YtpnjnedfcdppaaaGreatDoorOStand
import Derived.Test.YtpnjnedfcdppaaaGreatDoorOSumAll
/-
  The desk: keys, path, rows, tree, order, deep.
-/
namespace Go.Proofs.YtpnjnedfcdppaaaGreatDoor
open Go.RowKit

structure DK (w : World) (kb : Nat) (ops : List OP) : Prop where
  db : DB w kb (runR ops).1 ops
  ld : LD w
  kb : 6 ≤ kb
  len : ops.length ≤ 300
  bd : OB2 ops
theorem DK.below {w w' : World} {kb : Nat} {ops : List OP} (h : DK w kb ops) (hb : Below w.heap.size w w') : DK w' kb ops := ⟨h.db.below hb, h.ld.next hb, h.kb, h.len, h.bd⟩
theorem DB.pairs {w : World} {kb : Nat} {l : PL} {ops : List OP} (h : DB w kb l ops) : ∃ pA pn pc, w.cell? ⟨kb, 0, none⟩ = some (.slice pA pn pc) ∧ PS w pA pn pc l ∧ kb < w.heap.size := by
  have hlt := h.lt
  obtain ⟨pA, pn, pc, ov, h1, h2, _, _⟩ := h
  exact ⟨pA, pn, pc, by simp [World.cell?, h1], h2.ps, hlt⟩
theorem DB.opsAt {w : World} {kb : Nat} {l : PL} {ops : List OP} (h : DB w kb l ops) : ∃ oA oc, w.cell? ⟨kb, 1, none⟩ = some (.slice oA ops.length oc) ∧ OS w oA ops.length oc ops := by
  obtain ⟨pA, pn, pc, ov, h1, _, _, h4⟩ := h
  obtain ⟨oA, oc, rfl, hos⟩ := OwnO.os h4
  exact ⟨oA, oc, by simp [World.cell?, h1], hos⟩
set_option maxRecDepth 100000 in
set_option maxHeartbeats 4000000 in
theorem keys_dany (kb : Nat) (l : PL) (ops : List OP) (w : World) (h : DB w kb l ops) (hc : chk l = 0) :
    Calls Tryz.prog 161 #[.pointer (some ⟨kb, 0, none⟩)] w (RetI (kys l) w) := by
  obtain ⟨A, n, c, h0, hps, hlt⟩ := h.pairs
  have hn : n ≤ 200 := by have := chk_len hc; rw [hps.len] at this; exact this
  have H := Lib.hid hps
  have HL := Lib.hid hps.len
  have HLT := Lib.hid hlt
  have H0 := Lib.hid h0
  have hmk := fun w => run_makeI (P := Tryz.prog) 46 3 Tryz.underlying46 int_info n n (Nat.le_refl _) (by omega) w
  have h0' : ∀ o, (w.alloc o).cell? ⟨kb, 0, none⟩ = some (.slice A n c) := fun o => (World.cell?_of_block (Below.heap_alloc _ _ _ hlt)).trans h0
  clear hps hlt h hc
  go_enter Tryz.func161, Tryz.ntmps161
  go_wp2
  go_loopw [17] (fun iv wr => ∃ k : Nat, k ≤ n ∧ iv = .int .i64 k ∧ Hid (IB wr w.heap.size 3 (kysTo l k)) ∧ Hid (Below w.heap.size w wr)) (fun iv _ => n - (intOf iv).toNat)
  case atStart =>
    refine ⟨0, Nat.zero_le _, rfl, ?_, (Below.refl _ _).alloc (Nat.le_refl _) _⟩
    have e : kysTo l 0 = List.replicate n 0 := by unfold kysTo; rw [HL.out]; simp
    rw [e]
    have := IB.new w 3 (List.replicate n 0)
    show IB _ _ _ _
    simpa using this
  case round =>
    obtain ⟨k, hk, rfl, HT, HB⟩ := hrel
    by_cases hkn : k < n
    · obtain ⟨b, off, rfl, hb, hc⟩ := H.out.at_ (by omega)
      have hkl : k < l.length := by rw [HL.out]; exact hkn
      obtain ⟨c0', c1'⟩ := hc k hkn
      have c0 : wr.cell? ⟨b, off + k * 2, none⟩ = some (I l[k].1) := (HB.out.cell (p := ⟨b, _, none⟩) hb).trans c0'
      have c1 : wr.cell? ⟨b, off + k * 2 + 1, none⟩ = some (I l[k].2) := (HB.out.cell (p := ⟨b, off + (k * 2 + 1), none⟩) hb).trans c1'
      have HN := Lib.hid (kysTo_set l k hkl)
      have hgl : w.heap.size < wr.heap.size := HT.out.lt
      obtain ⟨x, hx⟩ : ∃ x, l[k].1 = x := ⟨_, rfl⟩
      obtain ⟨y, hy⟩ : ∃ y, l[k].2 = y := ⟨_, rfl⟩
      rw [hx] at c0 HN
      rw [hy] at c1
      have hkt : k < (kysTo l k).length := by rw [kysTo_len l k (by omega)]; exact hkl
      have hcell : ∀ o, (wr.alloc o).cell? ⟨w.heap.size, k, none⟩ = some (I (kysTo l k)[k]) := fun o => by
        rw [World.cell?_of_block (Below.heap_alloc _ _ _ hgl), HT.out.cell, List.getElem?_eq_getElem hkt]
        rfl
      have hfz : ∀ o, (wr.alloc o).frozen? ⟨w.heap.size, k, none⟩ = false := fun o => by
        rw [World.frozen?_of_block (Below.heap_alloc _ _ _ hgl)]
        exact HT.out.frozen k
      have HT2 : Hid (∀ o, IB ((wr.alloc o).setCell ⟨w.heap.size, k, none⟩ (I x)) w.heap.size 3 (kysTo l (k + 1))) := fun o => by
        rw [← HN.out]
        exact (HT.out.below ((Below.refl _ _).alloc (Nat.le_refl _) o) hgl).set _ _
      have HT3 : Hid (∀ o, IB ((wr.setCell ⟨w.heap.size, k, none⟩ (I x)).alloc o) w.heap.size 3 (kysTo l (k + 1))) := fun o => by
        rw [← HN.out]
        have h1 := HT.out.set k x
        exact h1.below ((Below.refl _ _).alloc (Nat.le_refl _) o) h1.lt
      clear hc hx hy hgl c0' c1'
      go_wp2
      go_roundw
      case rel =>
        refine ⟨k + 1, by omega, by go_num, ?_, ?_⟩
        · first | exact HT3.out _ | exact HT2.out _
        · first
            | exact (HB.out.setCell (p := ⟨w.heap.size, k, none⟩) (Nat.le_refl _) _).alloc (by show _ ≤ (wr.setCell _ _).heap.size; simp [World.setCell]; exact HB.out.size) _
            | exact (HB.out.alloc HB.out.size _).setCell (p := ⟨w.heap.size, k, none⟩) (Nat.le_refl _) _
      case measure => simp [intOf]; omega
    · obtain rfl : n = k := by omega
      have ht := HT.out
      have e : kysTo l n = kys l := by rw [← HL.out]; exact kysTo_all l
      rw [e] at ht
      have HT2 := Lib.hid ht
      have HKL : Hid ((kys l).length = n) := by show _ = _; rw [kys_len]; exact HL.out
      clear ht
      go_wp2
      go_ret
      refine ⟨some ⟨w.heap.size, 0, none⟩, n, by rw [HKL.out]; exact rfl, ?_, HB.out⟩
      exact HT2.out.is_ (by rw [HKL.out]; exact Nat.le_refl _)
end Go.Proofs.YtpnjnedfcdppaaaGreatDoor

/-
  The desk: path, rows.
-/
namespace Go.Proofs.YtpnjnedfcdppaaaGreatDoor
open Go.RowKit

def nfl (l : List Int) (k : Nat) : List Int := l.take k ++ List.replicate (l.length - k) 0
theorem nfl_len (l : List Int) {k : Nat} (h : k ≤ l.length) : (nfl l k).length = l.length := by simp [nfl]; omega
theorem nfl_set (l : List Int) (k : Nat) (h : k < l.length) : (nfl l k).set k l[k] = nfl l (k + 1) := by
  unfold nfl
  have h1 : (l.take k).length = k := by simp; omega
  rw [List.set_append_right _ _ (by omega), h1, Nat.sub_self, List.take_succ_eq_append_getElem h, show l.length - k = l.length - (k + 1) + 1 by omega, List.replicate_succ, List.append_assoc]
  rfl
theorem nfl_all (l : List Int) : nfl l l.length = l := by simp [nfl]
def RetTx (t : List UInt8) (w : World) (e : Ending) (w' : World) : Prop := e = .returned (.string (bsv t)) ∧ Below w.heap.size w w'
def RetEx (er : Int) (w : World) (e : Ending) (w' : World) : Prop := e = .panicked (slipC er) ∧ Below w.heap.size w w'
theorem stops_mem {l : List Int} (hR : Rise l) (key : Int) : ∀ s ∈ stops l key, s.2 ∈ l := fun s hs => ((stops_pin hR key).each s hs).2.1
theorem kys_bd {ops : List OP} : ∀ x ∈ kys (runR ops).1, 0 ≤ x ∧ x < 1000000000000000000 := fun x hx => by
  have := (rise_kys (chk_runR ops)).bd x hx
  omega
set_option maxRecDepth 100000 in
set_option maxHeartbeats 4000000 in
theorem path_ok (kb : Nat) (ops : List OP) (key : Int) (w : World) (h : DK w kb ops) (hk : kyB key = true) :
    Calls Tryz.prog 95 #[.pointer (some ⟨kb, 0, none⟩), I key] w (RetTx (orN (jnd ((stops (kys (runR ops).1) key).map Prod.snd))) w) := by
  have HK := Lib.hid (keys_dany kb _ ops w h.db (chk_runR ops))
  have HD := Lib.hid h
  have hR := rise_kys (chk_runR ops)
  obtain ⟨L, hL⟩ : ∃ L, kys (runR ops).1 = L := ⟨_, rfl⟩
  have hbd := kys_bd (ops := ops)
  rw [hL] at HK hR hbd ⊢
  have HR := Lib.hid hR
  obtain ⟨P, hP⟩ : ∃ P, stops L key = P := ⟨_, rfl⟩
  have hmem := stops_mem hR key
  have hPL := stTo_len L key 12
  have HPO := fun A n c w' (hI : IS w' A n c L) (hT : Tb w') => Path_ok A n c L key w' hI hR hk hT
  rw [hP] at hmem ⊢ HPO
  have hPl : P.length ≤ 2400 := by rw [← hP]; have h1 : (stops L key).length ≤ 12 * L.length := hPL; have := hR.len; omega
  have HPB : Hid (∀ x ∈ P.map Prod.snd, 0 ≤ x ∧ x < 1000000000000000000) := fun x hx => by
    obtain ⟨s, hs, rfl⟩ := List.mem_map.mp hx
    exact hbd _ (hmem s hs)
  have HPP := Lib.hid HPO
  have HML : Hid ((P.map Prod.snd).length = P.length) := List.length_map _
  clear hL hP hmem hPL hbd hR HPO h hk
  go_enter Tryz.func95, Tryz.ntmps95
  go_wp2_with fail
  refine HK.out.mono ?_
  rintro e w1 ⟨A1, c1, rfl, hI1, hb1⟩
  have HD1 := Lib.hid (HD.out.below hb1)
  have HP1 := Lib.hid (HPP.out A1 _ c1 w1 hI1 HD1.out.ld.tb)
  have HB1 := Lib.hid hb1
  clear hb1 hI1
  go_wp2_with fail
  refine HP1.out.mono ?_
  rintro e w2 ⟨A2, c2, rfl, hps, hb2⟩
  have HD2 := Lib.hid (HD1.out.below hb2)
  have HPS := Lib.hid hps
  have HB2 := Lib.hid (HB1.out.trans (hb2.mono HB1.out.size))
  clear hps hb2
  go_wp2_with fail
  refine (must_ok w2).mono ?_
  rintro e x ⟨rfl, hx⟩
  subst hx
  obtain ⟨n, hn⟩ : ∃ n, P.length = n := ⟨_, rfl⟩
  have HN := Lib.hid hn
  rw [hn] at hPl
  have hPS := HPS.out
  rw [hn] at hPS
  have HPT := Lib.hid hPS
  have hmk := fun w => run_makeI (P := Tryz.prog) 46 3 Tryz.underlying46 int_info n n (Nat.le_refl _) (by omega) w
  have HMN : Hid ((P.map Prod.snd).length = n) := by show _ = _; rw [HML.out, hn]
  rw [hn]
  clear hPS hn HPS
  go_wp2
  go_loopw [24] (fun iv wr => ∃ k : Nat, k ≤ n ∧ iv = .int .i64 k ∧ Hid (IB wr w2.heap.size 3 (nfl (P.map Prod.snd) k)) ∧ Hid (Below w2.heap.size w2 wr)) (fun iv _ => n - (intOf iv).toNat)
  case atStart =>
    refine ⟨0, Nat.zero_le _, rfl, ?_, (Below.refl _ _).alloc (Nat.le_refl _) _⟩
    have e : nfl (P.map Prod.snd) 0 = List.replicate n 0 := by unfold nfl; rw [HMN.out]; simp
    rw [e]
    have := IB.new w2 3 (List.replicate n 0)
    show IB _ _ _ _
    simpa using this
  case round =>
    obtain ⟨k, hk, rfl, HT, HB⟩ := hrel
    by_cases hkn : k < n
    · obtain ⟨b, off, rfl, hb, hc⟩ := HPT.out.at_ (by omega)
      have hkl : k < (P.map Prod.snd).length := by rw [HMN.out]; exact hkn
      obtain ⟨c0', c1'⟩ := hc k hkn
      have hkp : k < P.length := by rw [HN.out]; exact hkn
      have c0 : wr.cell? ⟨b, off + k * 2, none⟩ = some (I P[k].1) := (HB.out.cell (p := ⟨b, _, none⟩) hb).trans c0'
      have c1 : wr.cell? ⟨b, off + k * 2 + 1, none⟩ = some (I P[k].2) := (HB.out.cell (p := ⟨b, off + (k * 2 + 1), none⟩) hb).trans c1'
      have hset := nfl_set (P.map Prod.snd) k hkl
      rw [List.getElem_map] at hset
      have HN2 := Lib.hid hset
      have hgl : w2.heap.size < wr.heap.size := HT.out.lt
      obtain ⟨x, hx⟩ : ∃ x, P[k].1 = x := ⟨_, rfl⟩
      obtain ⟨y, hy⟩ : ∃ y, P[k].2 = y := ⟨_, rfl⟩
      rw [hx] at c0
      rw [hy] at c1 HN2
      have hkt : k < (nfl (P.map Prod.snd) k).length := by rw [nfl_len _ (by omega)]; exact hkl
      have hcell : ∀ o, (wr.alloc o).cell? ⟨w2.heap.size, k, none⟩ = some (I (nfl (P.map Prod.snd) k)[k]) := fun o => by
        rw [World.cell?_of_block (Below.heap_alloc _ _ _ hgl), HT.out.cell, List.getElem?_eq_getElem hkt]
        rfl
      have hfz : ∀ o, (wr.alloc o).frozen? ⟨w2.heap.size, k, none⟩ = false := fun o => by
        rw [World.frozen?_of_block (Below.heap_alloc _ _ _ hgl)]
        exact HT.out.frozen k
      have HT3 : Hid (∀ o, IB ((wr.alloc o).setCell ⟨w2.heap.size, k, none⟩ (I y)) w2.heap.size 3 (nfl (P.map Prod.snd) (k + 1))) := fun o => by
        rw [← HN2.out]
        exact (HT.out.below ((Below.refl _ _).alloc (Nat.le_refl _) o) hgl).set _ _
      clear hc hx hy hgl c0' c1' hset
      go_wp2
      go_roundw
      case rel =>
        refine ⟨k + 1, by omega, by go_num, ?_, ?_⟩
        · exact HT3.out _
        · exact (HB.out.alloc HB.out.size _).setCell (p := ⟨w2.heap.size, k, none⟩) (Nat.le_refl _) _
      case measure => simp [intOf]; omega
    · obtain rfl : n = k := by omega
      have ht := HT.out
      have e : nfl (P.map Prod.snd) n = P.map Prod.snd := by rw [← HMN.out]; exact nfl_all _
      rw [e] at ht
      have hI := ht.is_ (c := n) (by rw [HMN.out]; exact Nat.le_refl _)
      rw [HMN.out] at hI
      have HJ := Lib.hid (joined_any _ n n (P.map Prod.snd) wr hI (by omega) HPB.out (HD2.out.ld.next HB.out))
      have HB3 := Lib.hid (HB2.out.trans (HB.out.mono HB2.out.size))
      clear ht hI
      go_wp2_with fail
      refine HJ.out.mono ?_
      rintro e w4 ⟨rfl, hb4⟩
      have HB4 := Lib.hid (HB3.out.trans (hb4.mono HB3.out.size))
      have HO := Lib.hid (orNone_any (jnd (P.map Prod.snd)) w4)
      clear hb4
      go_wp2_with fail
      refine HO.out.mono ?_
      rintro e w5 ⟨rfl, hw5⟩
      subst hw5
      go_wp2
      go_ret
      exact ⟨rfl, HB4.out⟩
set_option maxRecDepth 100000 in
set_option maxHeartbeats 4000000 in
theorem path_bad (kb : Nat) (ops : List OP) (key : Int) (w : World) (h : DK w kb ops) (hk : kyB key = false) :
    Calls Tryz.prog 95 #[.pointer (some ⟨kb, 0, none⟩), I key] w (RetEx 1 w) := by
  have HK := Lib.hid (keys_dany kb _ ops w h.db (chk_runR ops))
  have HR := Lib.hid (rise_kys (chk_runR ops))
  have HKB := Lib.hid hk
  clear h hk
  go_enter Tryz.func95, Tryz.ntmps95
  go_wp2_with fail
  refine HK.out.mono ?_
  rintro e w1 ⟨A1, c1, rfl, hI1, hb1⟩
  have HP1 := Lib.hid (Path_arg A1 _ c1 _ key w1 hI1 HR.out HKB.out)
  have HB1 := Lib.hid hb1
  clear hb1 hI1
  go_wp2_with fail
  refine HP1.out.mono ?_
  rintro e w2 ⟨rfl, hb2⟩
  have HB2 := Lib.hid (HB1.out.trans (hb2.mono HB1.out.size))
  clear hb2
  go_wp2_with fail
  refine (must_bad 1 (by decide) w2).mono ?_
  rintro e x ⟨rfl, hx⟩
  subst hx
  go_wp2
  exact ⟨rfl, rfl, HB2.out⟩
end Go.Proofs.YtpnjnedfcdppaaaGreatDoor

/-
  The desk: rows, tree, order, deep.
-/
namespace Go.Proofs.YtpnjnedfcdppaaaGreatDoor
open Go.RowKit

def tfl (L : List (List Int)) (k : Nat) : List (List UInt8) := (L.take k).map jnd ++ List.replicate (L.length - k) []
theorem tfl_set {L : List (List Int)} {k : Nat} (h : k < L.length) : (tfl L k).set k (jnd L[k]) = tfl L (k + 1) := by
  unfold tfl
  have h1 : ((L.take k).map jnd).length = k := by simp; omega
  rw [List.set_append_right _ _ (by rw [h1]; exact Nat.le_refl _), h1, Nat.sub_self, List.take_succ_eq_append_getElem h, List.map_append, List.append_assoc, show L.length - k = L.length - (k + 1) + 1 by omega, List.replicate_succ]
  rfl
theorem tfl_all (L : List (List Int)) : tfl L L.length = L.map jnd := by simp [tfl]
theorem rows_txt {L : List (List Int)} (h : L.length ≤ 12) (hr : ∀ r ∈ L, r.length ≤ 200) : (rowsT L).length ≤ 2000000 := by
  unfold rowsT
  have h1 := join_len [124] (L.map jnd)
  have h2 : ((L.map jnd).map List.length).sum ≤ (L.map jnd).length * 100000 := sum_le_of fun x hx => by
    obtain ⟨y, hy, rfl⟩ := List.mem_map.mp hx
    exact jnd_len (by have := hr y hy; omega)
  simp only [List.length_map, List.length_singleton, Nat.mul_one] at h1 h2
  have : L.length * 100000 ≤ 12 * 100000 := Nat.mul_le_mul_right _ h
  omega
set_option maxRecDepth 100000 in
set_option maxHeartbeats 4000000 in
theorem rows_dany (kb : Nat) (ops : List OP) (w : World) (h : DK w kb ops) :
    Calls Tryz.prog 98 #[.pointer (some ⟨kb, 0, none⟩)] w (RetTx (orN (rowsT (rowsL (kys (runR ops).1)))) w) := by
  have HK := Lib.hid (keys_dany kb _ ops w h.db (chk_runR ops))
  have HD := Lib.hid h
  have hR := rise_kys (chk_runR ops)
  obtain ⟨L, hL⟩ : ∃ L, kys (runR ops).1 = L := ⟨_, rfl⟩
  have hbd := kys_bd (ops := ops)
  rw [hL] at HK hR hbd ⊢
  have HPP := Lib.hid fun A n c w' (hI : IS w' A n c L) (hT : Tb w') => Rows_ok A n c L w' hI hR hT
  obtain ⟨RS0, hRS⟩ : ∃ r, rowsL L = r := ⟨_, rfl⟩
  have hr12 : RS0.length ≤ 12 := by rw [← hRS, rowsL_len]; exact hiR_le L
  have hrr : ∀ r ∈ RS0, r.length ≤ 200 ∧ ∀ x ∈ r, 0 ≤ x ∧ x < 1000000000000000000 := fun r hr => by
    rw [← hRS] at hr
    obtain ⟨i, _, rfl⟩ := List.mem_map.mp hr
    refine ⟨Nat.le_trans (rowL_len L i) hR.len, fun x hx => hbd x ?_⟩
    exact (List.mem_filter.mp hx).1
  rw [hRS] at HPP ⊢
  have HRR := Lib.hid hrr
  have HTX := Lib.hid (rows_txt hr12 fun r hr => (hrr r hr).1)
  clear hL hbd hR h hRS hrr
  go_enter Tryz.func98, Tryz.ntmps98
  go_wp2_with fail
  refine HK.out.mono ?_
  rintro e w1 ⟨A1, c1, rfl, hI1, hb1⟩
  have HD1 := Lib.hid (HD.out.below hb1)
  have HP1 := Lib.hid (HPP.out A1 _ c1 w1 hI1 HD1.out.ld.tb)
  have HB1 := Lib.hid hb1
  clear hb1 hI1
  go_wp2_with fail
  refine HP1.out.mono ?_
  rintro e w2 ⟨A2, n, c2, rfl, hps, hb2⟩
  have HD2 := Lib.hid (HD1.out.below hb2)
  have HPS := Lib.hid hps
  have HB2 := Lib.hid (HB1.out.trans (hb2.mono HB1.out.size))
  have HN : Hid (RS0.length = n) := hps.len
  have hn12 : n ≤ 12 := by rw [← hps.len]; exact hr12
  clear hps hb2 hr12
  go_wp2_with fail
  refine (must_ok w2).mono ?_
  rintro e x ⟨rfl, hx⟩
  subst hx
  have hmk := fun w => run_makeT n n (Nat.le_refl _) (by omega) w
  go_wp2
  go_loopw [21] (fun iv wr => ∃ k : Nat, k ≤ n ∧ iv = .int .i64 k ∧ Hid (TBk wr w2.heap.size (tfl RS0 k)) ∧ Hid (Below w2.heap.size w2 wr)) (fun iv _ => n - (intOf iv).toNat)
  case atStart =>
    refine ⟨0, Nat.zero_le _, rfl, ?_, (Below.refl _ _).alloc (Nat.le_refl _) _⟩
    have e : tfl RS0 0 = List.replicate n [] := by unfold tfl; rw [HN.out]; simp
    rw [e]
    have := TBk.new w2 (List.replicate n [])
    show TBk _ _ _
    simpa using this
  case round =>
    obtain ⟨k, hk, rfl, HT, HB⟩ := hrel
    by_cases hkn : k < n
    · obtain ⟨b, off, rfl, hb, hc⟩ := HPS.out.at_ (by omega)
      have hkl : k < RS0.length := by rw [HN.out]; exact hkn
      obtain ⟨A', n', c', c0', hI'⟩ := hc k hkn
      rw [List.getElem?_eq_getElem hkl, Option.getD_some] at hI'
      have c0 : wr.cell? ⟨b, off + k, none⟩ = some (.slice A' n' c') := (HB.out.cell (p := ⟨b, off + k, none⟩) hb).trans c0'
      obtain ⟨h200, hbd⟩ := HRR.out _ (List.getElem_mem hkl)
      have HJ := Lib.hid (joined_any A' n' c' RS0[k] wr (hI'.below HB.out) (by rw [← hI'.len]; omega) hbd (HD2.out.ld.next HB.out))
      have HN2 := Lib.hid (tfl_set hkl)
      clear hc c0' hI' hbd h200
      go_wp2_with fail
      refine HJ.out.mono ?_
      rintro e w4 ⟨rfl, hb4⟩
      have ht4 := HT.out.below hb4 HT.out.lt
      have HT4 := Lib.hid ht4
      have hkt : k < (tfl RS0 k).length := by unfold tfl; simp; omega
      have hcell := ht4.cell k
      rw [List.getElem?_eq_getElem hkt, Option.map_some] at hcell
      have hfz := ht4.frozen k
      have HB4 := Lib.hid (HB.out.trans (hb4.mono HB.out.size))
      clear hb4 ht4
      go_wp2
      go_roundw
      case rel =>
        refine ⟨k + 1, by omega, by go_num, ?_, HB4.out.setCell (p := ⟨w2.heap.size, k, none⟩) (Nat.le_refl _) _⟩
        rw [← HN2.out]
        exact HT4.out.set _ _
      case measure => simp [intOf]; omega
    · obtain rfl : n = k := by omega
      have ht := HT.out
      have e : tfl RS0 n = RS0.map jnd := by rw [← HN.out]; exact tfl_all _
      rw [e] at ht
      have HJ := Lib.hid (djoin_any w2.heap.size n n (RS0.map jnd) [124] wr ht (by rw [List.length_map]; exact HN.out) (Nat.le_refl _) (by have := HTX.out; unfold rowsT at this; omega) (by omega))
      have HB3 := Lib.hid (HB2.out.trans (HB.out.mono HB2.out.size))
      clear ht
      go_wp2_with fail
      refine HJ.out.mono ?_
      rintro e w4 ⟨rfl, hb4⟩
      have HB4 := Lib.hid (HB3.out.trans (hb4.mono HB3.out.size))
      have HO := Lib.hid (orNone_any (Lib.join (RS0.map jnd) [124]) w4)
      clear hb4
      go_wp2_with fail
      refine HO.out.mono ?_
      rintro e w5 ⟨rfl, hw5⟩
      subst hw5
      go_wp2
      go_ret
      exact ⟨rfl, HB4.out⟩

/- trees -/
def RetTr (r : Option Tr) (w : World) (e : Ending) (w' : World) : Prop :=
  match r with
  | some t => ∃ A n c, e = .returned (.slice A n c) ∧ PS w' A n c (t.sp 0) ∧ Below w.heap.size w w'
  | none => e = .panicked (slipC 1) ∧ Below w.heap.size w w'
set_option maxRecDepth 100000 in
set_option maxHeartbeats 4000000 in
theorem tree_dany (kb : Nat) (ops : List OP) (x : List UInt8) (w : World) (h : DK w kb ops) :
    Calls Tryz.prog 165 #[.pointer (some ⟨kb, 0, none⟩), .string (bsv x)] w (RetTr (dTree ops x) w) := by
  have f : ∀ m, (x == m) = decide (x = m) := fun m => by rw [Bool.eq_iff_iff]; simp
  obtain ⟨oA, oc, h0, hos⟩ := h.db.opsAt
  have hlen := h.len
  by_cases h1 : x = [103, 114, 111, 119]
  · have g1 : (x == [103, 114, 111, 119]) = true := by rw [f]; simp [h1]
    have HD : Hid (dTree ops x = some (grT ops)) := by show _ = _; unfold dTree; rw [if_pos h1]
    have HR := Lib.hid (GRun_any oA ops.length oc ops w hos hlen)
    clear f h hos h1
    go_enter Tryz.func165, Tryz.ntmps165
    go_wp2_with fail
    refine HR.out.mono ?_
    rintro e w1 ⟨A, n, c, A', n', c', rfl, hps, _, hb⟩
    have HPS := Lib.hid hps
    have HB := Lib.hid hb
    clear hps hb
    go_wp2_with fail
    refine (must_ok w1).mono ?_
    rintro e y ⟨rfl, hy⟩
    subst hy
    go_wp2
    go_ret
    rw [HD.out]
    exact ⟨A, n, c, rfl, HPS.out, HB.out⟩
  · have g1 : (x == [103, 114, 111, 119]) = false := by rw [f]; simp [h1]
    by_cases h2 : x = [122, 105, 112]
    · have g2 : (x == [122, 105, 112]) = true := by rw [f]; simp [h2]
      have HD : Hid (dTree ops x = some (zT (kys (runR ops).1))) := by show _ = _; unfold dTree; rw [if_neg h1, if_pos h2]
      have HR := Lib.hid (RunZ_any oA ops.length oc ops (zT (kys (runR ops).1)) _ w hos hlen rfl (chk_len (chk_runR ops)) (zT_hp _) h.ld.tb)
      clear f h hos h1 h2
      go_enter Tryz.func165, Tryz.ntmps165
      go_wp2_with fail
      refine HR.out.mono ?_
      rintro e w1 ⟨A, c, A', n', c', rfl, hps, _, hb⟩
      have HPS := Lib.hid hps
      have HB := Lib.hid hb
      clear hps hb
      go_wp2_with fail
      refine (must_ok w1).mono ?_
      rintro e y ⟨rfl, hy⟩
      subst hy
      go_wp2
      go_ret
      rw [HD.out]
      exact ⟨A, _, c, rfl, HPS.out, HB.out⟩
    · have g2 : (x == [122, 105, 112]) = false := by rw [f]; simp [h2]
      by_cases h3 : x = [103, 111, 97, 116]
      · have g3 : (x == [103, 111, 97, 116]) = true := by rw [f]; simp [h3]
        have HD : Hid (dTree ops x = some (goT ops).t) := by show _ = _; unfold dTree; rw [if_neg h1, if_neg h2, if_pos h3]
        have HR := Lib.hid (ORun_any oA ops.length oc _ ops w hos hlen rfl)
        clear f h hos h1 h2 h3
        go_enter Tryz.func165, Tryz.ntmps165
        go_wp2_with fail
        refine HR.out.mono ?_
        rintro e w1 ⟨A, c, A', n', c', rfl, hps, _, hb⟩
        have HPS := Lib.hid hps
        have HB := Lib.hid hb
        clear hps hb
        go_wp2_with fail
        refine (must_ok w1).mono ?_
        rintro e y ⟨rfl, hy⟩
        subst hy
        go_wp2
        go_ret
        rw [HD.out]
        exact ⟨A, _, c, rfl, HPS.out, HB.out⟩
      · have g3 : (x == [103, 111, 97, 116]) = false := by rw [f]; simp [h3]
        by_cases h4 : x = [101, 118, 101, 110]
        · have g4 : (x == [101, 118, 101, 110]) = true := by rw [f]; simp [h4]
          have HD : Hid (dTree ops x = some (ev (kys (runR ops).1))) := by show _ = _; unfold dTree; rw [if_neg h1, if_neg h2, if_neg h3, if_pos h4]
          have HK := Lib.hid (keys_dany kb _ ops w h.db (chk_runR ops))
          have HDK := Lib.hid h
          have HRI := Lib.hid (rise_kys (chk_runR ops))
          clear f h hos h0 h1 h2 h3 h4
          go_enter Tryz.func165, Tryz.ntmps165
          go_wp2_with fail
          refine HK.out.mono ?_
          rintro e w1 ⟨A1, c1, rfl, hI1, hb1⟩
          have HE := Lib.hid (Even_ok A1 _ c1 _ w1 hI1 HRI.out (HDK.out.below hb1).ld.tb)
          have HB1 := Lib.hid hb1
          clear hI1 hb1
          go_wp2_with fail
          refine HE.out.mono ?_
          rintro e w2 ⟨A, c, rfl, hps, hb⟩
          have HPS := Lib.hid hps
          have HB := Lib.hid (HB1.out.trans (hb.mono HB1.out.size))
          clear hps hb
          go_wp2_with fail
          refine (must_ok w2).mono ?_
          rintro e y ⟨rfl, hy⟩
          subst hy
          go_wp2
          go_ret
          rw [HD.out]
          exact ⟨A, _, c, rfl, HPS.out, HB.out⟩
        · have g4 : (x == [101, 118, 101, 110]) = false := by rw [f]; simp [h4]
          have HD : Hid (dTree ops x = none) := by show _ = _; unfold dTree; rw [if_neg h1, if_neg h2, if_neg h3, if_neg h4]
          clear f h hos h0 h1 h2 h3 h4
          go_enter Tryz.func165, Tryz.ntmps165
          go_wp2_with fail
          refine (must_bad 1 (by decide) w).mono ?_
          rintro e y ⟨rfl, hy⟩
          subst hy
          go_wp2
          refine ⟨rfl, ?_⟩
          rw [HD.out]
          exact ⟨rfl, Below.refl _ _⟩
theorem tall_le_size : ∀ t : Tr, t.tall ≤ t.size
  | .nil => Nat.le_refl _
  | .node a k b => by
    have h1 := tall_le_size a
    have h2 := tall_le_size b
    simp only [Tr.tall, Tr.size]
    omega
def DRetOrd (r : Option (List UInt8)) (w : World) (e : Ending) (w' : World) : Prop :=
  match r with
  | some t => RetTx t w e w'
  | none => RetEx 1 w e w'
theorem pre_mem : ∀ {t : Tr} {x : Int}, x ∈ t.pre → x ∈ t.ks
  | .nil, x, h => by cases h
  | .node a k b, x, h => by
    unfold Tr.pre at h
    unfold Tr.ks
    simp only [List.mem_cons, List.mem_append] at h ⊢
    rcases h with h | h | h
    · exact .inr (.inl h)
    · exact .inl (pre_mem h)
    · exact .inr (.inr (pre_mem h))
set_option maxRecDepth 100000 in
set_option maxHeartbeats 4000000 in
theorem order_dany (kb : Nat) (ops : List OP) (x : List UInt8) (w : World) (h : DK w kb ops) :
    Calls Tryz.prog 99 #[.pointer (some ⟨kb, 0, none⟩), .string (bsv x)] w (DRetOrd ((dTree ops x).map fun t => orN (jnd t.pre)) w) := by
  have HT := Lib.hid (tree_dany kb ops x w h)
  have HDK := Lib.hid h
  cases hd : dTree ops x with
  | none =>
    rw [hd] at HT
    clear h hd
    go_enter Tryz.func99, Tryz.ntmps99
    go_wp2_with fail
    refine HT.out.mono ?_
    rintro e w1 ⟨rfl, hb⟩
    have HB := Lib.hid hb
    clear hb
    go_wp2
    exact ⟨rfl, rfl, HB.out⟩
  | some t =>
    have htr := dTree_tree hd
    have hks := dTree_ks hd
    have HBD : Hid (∀ y ∈ t.pre, 0 ≤ y ∧ y < 1000000000000000000) := fun y hy => kys_bd y (by rw [← hks]; exact pre_mem hy)
    have HSZ : Hid (t.pre.length ≤ 200) := by show _ ≤ _; rw [pre_length]; exact htr.2
    have HTR := Lib.hid htr.1
    rw [hd] at HT
    clear h hd htr hks
    go_enter Tryz.func99, Tryz.ntmps99
    go_wp2_with fail
    refine HT.out.mono ?_
    rintro e w1 ⟨A, n, c, rfl, hps, hb⟩
    have HO := Lib.hid (Order1_ok A n c _ t w1 hps HTR.out rfl)
    have HB := Lib.hid hb
    have HD1 := Lib.hid (HDK.out.below hb)
    clear hps hb
    go_wp2_with fail
    refine HO.out.mono ?_
    rintro e w2 ⟨A2, n2, c2, rfl, hI, hb2, _⟩
    have HJ := Lib.hid (joined_any A2 n2 c2 t.pre w2 hI (by rw [← hI.len]; have := HSZ.out; omega) HBD.out (HD1.out.ld.next hb2))
    have HB2 := Lib.hid (HB.out.trans (hb2.mono HB.out.size))
    clear hI hb2
    go_wp2_with fail
    refine (must_ok w2).mono ?_
    rintro e y ⟨rfl, hy⟩
    subst hy
    go_wp2_with fail
    refine HJ.out.mono ?_
    rintro e w4 ⟨rfl, hb4⟩
    have HB4 := Lib.hid (HB2.out.trans (hb4.mono HB2.out.size))
    have HON := Lib.hid (orNone_any (jnd t.pre) w4)
    clear hb4
    go_wp2_with fail
    refine HON.out.mono ?_
    rintro e w5 ⟨rfl, hw5⟩
    subst hw5
    go_wp2
    go_ret
    exact ⟨rfl, HB4.out⟩
set_option maxRecDepth 100000 in
set_option maxHeartbeats 4000000 in
theorem deep_dany (kb : Nat) (ops : List OP) (x : List UInt8) (w : World) (h : DK w kb ops) :
    Calls Tryz.prog 100 #[.pointer (some ⟨kb, 0, none⟩), .string (bsv x)] w (DRetOrd ((dTree ops x).map deepT) w) := by
  have HT := Lib.hid (tree_dany kb ops x w h)
  have HDK := Lib.hid h
  cases hd : dTree ops x with
  | none =>
    rw [hd] at HT
    clear h hd
    go_enter Tryz.func100, Tryz.ntmps100
    go_wp2_with fail
    refine HT.out.mono ?_
    rintro e w1 ⟨rfl, hb⟩
    have HB := Lib.hid hb
    clear hb
    go_wp2
    exact ⟨rfl, rfl, HB.out⟩
  | some t =>
    have htr := dTree_tree hd
    have HTR := Lib.hid htr.1
    have htl : t.tall ≤ 200 := Nat.le_trans (tall_le_size t) htr.2
    rw [hd] at HT
    clear h hd htr
    go_enter Tryz.func100, Tryz.ntmps100
    go_wp2_with fail
    refine HT.out.mono ?_
    rintro e w1 ⟨A, n, c, rfl, hps, hb⟩
    have HO := Lib.hid (Sum2_ok A n c t w1 hps HTR.out)
    have HB := Lib.hid hb
    have HD1 := Lib.hid (HDK.out.below hb)
    clear hps hb
    go_wp2_with fail
    refine HO.out.mono ?_
    rintro e w2 ⟨rfl, hb2⟩
    have HLD := Lib.hid (HD1.out.ld.next hb2)
    have HB2 := Lib.hid (HB.out.trans (hb2.mono HB.out.size))
    clear hb2
    go_wp2_with fail
    refine (must_ok w2).mono ?_
    rintro e y ⟨rfl, hy⟩
    subst hy
    obtain ⟨m, hm⟩ : ∃ m, t.tall = m := ⟨_, rfl⟩
    rw [hm] at htl ⊢
    have HM := Lib.hid hm
    clear hm
    by_cases h0 : m = 0
    · subst h0
      go_wp2
      go_ret
      refine ⟨?_, HB2.out⟩
      unfold deepT
      rw [HM.out]
      rfl
    · obtain ⟨q, rfl⟩ : ∃ q, m = q + 1 := ⟨m - 1, by omega⟩
      have e1 : ((q + 1 : Nat) : Int) - 1 = (q : Int) := by omega
      have HI := Lib.hid (itoa_any q (by omega) w2 HLD.out)
      rw [e1]
      clear e1 h0
      go_wp2_with fail
      refine HI.out.mono ?_
      rintro e w4 ⟨rfl, hb4⟩
      have HB4 := Lib.hid (HB2.out.trans (hb4.mono HB2.out.size))
      clear hb4
      go_wp2
      go_ret
      refine ⟨?_, HB4.out⟩
      unfold deepT
      rw [HM.out, if_neg (by omega)]
      rfl
end Go.Proofs.YtpnjnedfcdppaaaGreatDoor
