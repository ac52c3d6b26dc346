/-
  Joined texts: YtpnjnedfcdppaaaGreatDoorAns, YtpnjnedfcdppaaaGreatDoorSLeaf, YtpnjnedfcdppaaaGreatDoorSChk.
-/
import Derived.Test.YtpnjnedfcdppaaaGreatDoorEqTAll
import Derived.Laws.MakeOwn
import Derived.Laws.CopyOwn
import Derived.Test.YtpnjnedfcdppaaaGreatDoorChecked
import Derived.Test.YtpnjnedfcdppaaaGreatDoorCopy
import Derived.Test.YtpnjnedfcdppaaaGreatDoorOSpotsAll
import Derived.BigQuiet
import Derived.Deep.QuietTactic
/-
  ANSWERS IN A ROW OF THE CALL'S OWN; a slice of ops. Nothing of the program.
-/
namespace Go.Proofs.YtpnjnedfcdppaaaGreatDoor
open Go.RowKit

def flatA : List An → List Value
  | [] => []
  | a :: t => I a.e :: I a.k :: I a.v :: .bool a.b :: flatA t
theorem flatA_length (l : List An) : (flatA l).length = l.length * 4 := by induction l <;> simp [flatA, *]; omega
theorem flatA_append (l m : List An) : flatA (l ++ m) = flatA l ++ flatA m := by induction l <;> simp [flatA, *]
theorem flatA_at (l : List An) (i : Nat) (h : i < l.length) : (flatA l)[i * 4]? = some (I l[i].e) ∧ (flatA l)[i * 4 + 1]? = some (I l[i].k) ∧ (flatA l)[i * 4 + 2]? = some (I l[i].v) ∧ (flatA l)[i * 4 + 3]? = some (.bool l[i].b) := by
  induction l generalizing i with
  | nil => simp at h
  | cons p t ih => cases i with
    | zero => simp [flatA]
    | succ i =>
      rw [show (i + 1) * 4 = i * 4 + 1 + 1 + 1 + 1 by omega]
      have := ih i (by simpa using h)
      simpa [flatA] using this
theorem flatA_set (l : List An) (i : Nat) (a : An) (h : i < l.length) : ((((flatA l).set (i * 4) (I a.e)).set (i * 4 + 1) (I a.k)).set (i * 4 + 2) (I a.v)).set (i * 4 + 3) (.bool a.b) = flatA (l.set i a) := by
  induction l generalizing i with
  | nil => simp at h
  | cons p t ih => cases i with
    | zero => simp [flatA]
    | succ i =>
      rw [show (i + 1) * 4 + 3 = i * 4 + 3 + 1 + 1 + 1 + 1 by omega, show (i + 1) * 4 + 2 = i * 4 + 2 + 1 + 1 + 1 + 1 by omega, show (i + 1) * 4 + 1 = i * 4 + 1 + 1 + 1 + 1 + 1 by omega, show (i + 1) * 4 = i * 4 + 1 + 1 + 1 + 1 by omega]
      have := ih i (by simpa using h)
      simp [flatA, this]
theorem flatA_made (n : Nat) : madeCells #[I 0, I 0, I 0, .bool false] (n * 4) = (flatA (List.replicate n an0)).toArray := by
  apply Array.ext
  · simp [size_madeCells, flatA_length]
  · intro k h1 h2
    simp only [size_madeCells] at h1
    have hb : k / 4 < (List.replicate n an0).length := by simp; omega
    have hf := flatA_at (List.replicate n an0) (k / 4) hb
    simp only [List.getElem_replicate] at hf
    have h3 : k < (flatA (List.replicate n an0)).length := by simpa using h2
    have hk : (flatA (List.replicate n an0))[k]? = some ((madeCells #[I 0, I 0, I 0, .bool false] (n * 4))[k]'(by rw [size_madeCells]; exact h1)) := by
      have : k % 4 = 0 ∨ k % 4 = 1 ∨ k % 4 = 2 ∨ k % 4 = 3 := by omega
      rcases this with h | h | h | h
      · have e : k = k / 4 * 4 := by omega
        rw [show (flatA (List.replicate n an0))[k]? = (flatA (List.replicate n an0))[k / 4 * 4]? by rw [← e], hf.1]; simp [madeCells, h]
      · have e : k = k / 4 * 4 + 1 := by omega
        rw [show (flatA (List.replicate n an0))[k]? = (flatA (List.replicate n an0))[k / 4 * 4 + 1]? by rw [← e], hf.2.1]; simp [madeCells, h]
      · have e : k = k / 4 * 4 + 2 := by omega
        rw [show (flatA (List.replicate n an0))[k]? = (flatA (List.replicate n an0))[k / 4 * 4 + 2]? by rw [← e], hf.2.2.1]; simp [madeCells, h]
      · have e : k = k / 4 * 4 + 3 := by omega
        rw [show (flatA (List.replicate n an0))[k]? = (flatA (List.replicate n an0))[k / 4 * 4 + 3]? by rw [← e], hf.2.2.2]; simp [madeCells, h]
    rw [List.getElem?_eq_getElem h3] at hk
    have := Option.some.inj hk
    simpa using this.symm

def QB (w : World) (g t : Nat) (L : List An) : Prop := w.heap[g]? = some (.cells (flatA L).toArray t (0, 0))
theorem QB.lt {w : World} {g t : Nat} {L : List An} (h : QB w g t L) : g < w.heap.size := by
  rcases Nat.lt_or_ge g w.heap.size with hlt | hge
  · exact hlt
  · unfold QB at h; rw [Array.getElem?_eq_none hge] at h; cases h
theorem QB.cell {w : World} {g t : Nat} {L : List An} (h : QB w g t L) (i : Nat) : w.cell? ⟨g, i, none⟩ = (flatA L)[i]? := by
  unfold QB at h
  simp [World.cell?, h]
theorem QB.frozen {w : World} {g t : Nat} {L : List An} (h : QB w g t L) (i : Nat) : w.frozen? ⟨g, i, none⟩ = false := by
  unfold QB at h
  simp [World.frozen?, h]
theorem QB.as_ {w : World} {g t c : Nat} {L : List An} (h : QB w g t L) (hc : L.length ≤ c) : AS w (some ⟨g, 0, none⟩) L.length c L := by
  refine ⟨rfl, hc, fun _ => ⟨g, 0, rfl, h.lt, fun i hi j hj => ?_⟩⟩
  rw [h.cell]
  have := flatA_at L i hi
  have hl : L[i]?.getD an0 = L[i] := by simp [List.getElem?_eq_getElem hi]
  rcases (show j = 0 ∨ j = 1 ∨ j = 2 ∨ j = 3 by omega) with rfl | rfl | rfl | rfl
  · simpa [af, hl] using this.1
  · simpa [af, hl] using this.2.1
  · simpa [af, hl] using this.2.2.1
  · simpa [af, hl] using this.2.2.2
theorem QB.below {w w' : World} {g t B : Nat} {L : List An} (h : QB w g t L) (hb : Below B w w') (hg : g < B) : QB w' g t L := (hb.block g hg).trans h
theorem QB.new (w : World) (t : Nat) (L : List An) : QB (w.alloc (.cells (flatA L).toArray t)) w.heap.size t L := heap_alloc_new w _
theorem QB.alloc {w : World} {g t : Nat} {L : List An} (h : QB w g t L) (o : Obj) : QB (w.alloc o) g t L := (Below.heap_alloc w o g h.lt).trans h
theorem cells_set {w : World} {g t : Nat} {cs : List Value} (h : w.heap[g]? = some (.cells cs.toArray t (0, 0))) (i : Nat) (v : Value) : (w.setCell ⟨g, i, none⟩ v).heap[g]? = some (.cells (cs.set i v).toArray t (0, 0)) := by
  rw [setCell_eq_setRow w g i _ t (0, 0) v h, setRow_heap w g _ _ t (0, 0) h]
  simp
theorem QB.set {w : World} {g t : Nat} {L : List An} (h : QB w g t L) (i : Nat) (a : An) (hi : i < L.length) :
    QB ((((w.setCell ⟨g, i * 4, none⟩ (I a.e)).setCell ⟨g, i * 4 + 1, none⟩ (I a.k)).setCell ⟨g, i * 4 + 2, none⟩ (I a.v)).setCell ⟨g, i * 4 + 3, none⟩ (.bool a.b)) g t (L.set i a) := by
  unfold QB
  rw [← flatA_set L i a hi]
  exact cells_set (cells_set (cells_set (cells_set h _ _) _ _) _ _) _ _

theorem run_makeA {P : Program} (t e : TypeId) (ht : P.underlying t = some (.slice e)) (hi : (P.info? e).map (fun i => (i.zero, i.size, i.bytes)) = some (some (.agg #[I 0, I 0, I 0, .bool false]), 4, 32)) (n : Nat) (hn : n ≤ 1000000) (w : World) :
    (Instr.makeSlice t (.int .i64 (n : Int)) (.int .i64 (n : Int))).run P w = .ok (.slice (some ⟨w.heap.size, 0, none⟩) n n) (w.alloc (.cells (flatA (List.replicate n an0)).toArray e)) := by
  obtain ⟨i, h1, hz, hs, hb⟩ := info_parts hi
  have := run_make (P := P) w t e i _ ht h1 hz .i64 .i64 n n (by omega) (by omega) (by rw [hb]; omega) (by omega)
  rw [this, hs]
  simp only [Int.toNat_natCast, Value.cells]
  rw [flatA_made]

abbrev OP := Int × Int × Int
def of_ (l : List OP) (i j : Nat) : Value := I (if j = 0 then (l[i]?.getD (0, 0, 0)).1 else if j = 1 then (l[i]?.getD (0, 0, 0)).2.1 else (l[i]?.getD (0, 0, 0)).2.2)
structure OS (w : World) (A : Option Addr) (n c : Nat) (l : List OP) : Prop where
  len : l.length = n
  rd : Rd w w.heap.size 3 A n c (of_ l)
theorem OS.below {w w' : World} {n c : Nat} {A : Option Addr} {l : List OP} (h : OS w A n c l) (hb : Below w.heap.size w w') : OS w' A n c l := ⟨h.len, h.rd.below hb⟩
theorem OS.at_ {w : World} {n c : Nat} {A : Option Addr} {l : List OP} (h : OS w A n c l) (hn : 0 < n) :
    ∃ b off, A = some ⟨b, off, none⟩ ∧ b < w.heap.size ∧ ∀ i (hi : i < n), w.cell? ⟨b, off + i * 3, none⟩ = some (I (l[i]'(by rw [h.len]; exact hi)).1) ∧ w.cell? ⟨b, off + (i * 3 + 1), none⟩ = some (I (l[i]'(by rw [h.len]; exact hi)).2.1) ∧
      w.cell? ⟨b, off + (i * 3 + 2), none⟩ = some (I (l[i]'(by rw [h.len]; exact hi)).2.2) := by
  obtain ⟨b, off, e, hb, hc⟩ := h.rd.2 hn
  refine ⟨b, off, e, hb, fun i hi => ?_⟩
  have hl : i < l.length := by rw [h.len]; exact hi
  have h0 := hc i hi 0 (by omega)
  have h1 := hc i hi 1 (by omega)
  have h2 := hc i hi 2 (by omega)
  simp [of_, List.getElem?_eq_getElem hl] at h0 h1 h2
  exact ⟨h0, h1, h2⟩

end Go.Proofs.YtpnjnedfcdppaaaGreatDoor

/-
  topOf, stands, Check.
-/
namespace Go.Proofs.YtpnjnedfcdppaaaGreatDoor
open Go.RowKit

theorem PS.dat {w : World} {n c : Nat} {A : Option Addr} {l : PL} (h : PS w A n c l) (hn : 0 < n) :
    ∃ b off, A = some ⟨b, off, none⟩ ∧ b < w.heap.size ∧ ∀ i, i < n → w.cell? ⟨b, off + i * 2, none⟩ = some (I (ky l i)) ∧ w.cell? ⟨b, off + i * 2 + 1, none⟩ = some (I (dp l i)) := by
  obtain ⟨b, off, e, hb, hc⟩ := h.at_ hn
  refine ⟨b, off, e, hb, fun i hi => ?_⟩
  have hl : i < l.length := by rw [h.len]; exact hi
  rw [ky_in hl, dp_in hl]
  exact hc i hi
theorem PS.take {w : World} {n c : Nat} {A : Option Addr} {l : PL} (h : PS w A n c l) (k : Nat) (hk : k ≤ n) : PS w A k c (l.take k) := by
  refine ⟨by simp [h.len]; omega, by have := h.rd.1; omega, fun h0 => ?_⟩
  obtain ⟨b, off, e, hb, hc⟩ := h.rd.2 (by omega)
  refine ⟨b, off, e, hb, fun i hi j hj => ?_⟩
  rw [hc i (by omega) j hj]
  simp [pf, List.getElem?_take, hi]
theorem PS.drop {w : World} {n c c' : Nat} {A : Option Addr} {l : PL} (h : PS w A n c l) (k : Nat) (hk : k ≤ n) (sp : Option Addr) (hs : k < n → ∀ b off, A = some ⟨b, off, none⟩ → sp = some ⟨b, off + k * 2, none⟩) (hc' : n - k ≤ c') : PS w sp (n - k) c' (l.drop k) := by
  refine ⟨by simp [h.len], hc', fun h0 => ?_⟩
  obtain ⟨b, off, e, hb, hc⟩ := h.rd.2 (by omega)
  refine ⟨b, off + k * 2, hs (by omega) b off e, hb, fun i hi j hj => ?_⟩
  have := hc (k + i) (by omega) j hj
  rw [show off + ((k + i) * 2 + j) = off + k * 2 + (i * 2 + j) by omega] at this
  rw [this]
  simp [pf, List.getElem?_drop]

def TopTo (l : PL) (k j : Nat) : Prop := (∀ i, i < k → dp l j ≤ dp l i) ∧ ∀ i, i < j → dp l j < dp l i
theorem topTo_less {l : PL} {k j : Nat} (h : TopTo l k j) (hd : dp l k < dp l j) : TopTo l (k + 1) k := by
  constructor
  · intro i hi
    rcases Nat.lt_or_ge i k with h1 | h1
    · have := h.1 i h1; omega
    · obtain rfl : i = k := by omega
      exact Int.le_refl _
  · intro i hi
    have := h.1 i hi; omega
theorem topTo_same {l : PL} {k j : Nat} (h : TopTo l k j) (hd : ¬ dp l k < dp l j) : TopTo l (k + 1) j := by
  refine ⟨fun i hi => ?_, h.2⟩
  rcases Nat.lt_or_ge i k with h1 | h1
  · exact h.1 i h1
  · obtain rfl : i = k := by omega
    omega

set_option maxHeartbeats 1000000 in
theorem topOf_any (A : Option Addr) (n c : Nat) (l : PL) (w : World) (h : PS w A n c l) (hn : n ≤ 1000) (h0 : 0 < n) :
    Calls Tryz.prog 200 #[.slice A n c] w fun e w' => e = .returned (I (topR l)) ∧ Below w.heap.size w w' := by
  have H := Lib.hid h
  have Hlen := Lib.hid h.len
  clear h
  obtain ⟨b, off, rfl, hb, hc⟩ := H.out.dat h0
  have HC := Lib.hid hc
  clear hc
  go_enter Tryz.func200, Tryz.ntmps200
  go_wp2
  go_loopw [3, 8] (fun t i wr => ∃ k j : Nat, k ≤ n ∧ j < n ∧ i = .int .i64 k ∧ t = .int .i64 j ∧ TopTo l k j ∧ Below w.heap.size w wr) (fun _ i _ => n - (intOf i).toNat)
  case atStart => exact ⟨0, 0, Nat.zero_le _, h0, rfl, rfl, ⟨fun i hi => absurd hi (by omega), fun i hi => absurd hi (by omega)⟩, Below.refl _ _⟩
  case round =>
    obtain ⟨k, j, hk, hj, rfl, rfl, htop, hnx⟩ := hrel
    have hsz := hnx.size
    have hbwr : b < wr.heap.size := by omega
    by_cases hlt : k < n
    · have hc0 : wr.cell? ⟨b, off + k * 2, none⟩ = some (I (ky l k)) := (hnx.cell (by exact hb)).trans (HC.out k hlt).1
      have hc1 : wr.cell? ⟨b, off + k * 2 + 1, none⟩ = some (I (dp l k)) := (hnx.cell (by exact hb)).trans (HC.out k hlt).2
      have hj1 : wr.cell? ⟨b, off + j * 2 + 1, none⟩ = some (I (dp l j)) := (hnx.cell (by exact hb)).trans (HC.out j hj).2
      by_cases hd : dp l k < dp l j
      · have HT := Lib.hid (topTo_less htop hd)
        clear htop
        go_wp2
        go_quiet (fail)
        go_wp2
        go_roundw
        case rel => exact ⟨k + 1, k, by omega, hlt, by go_num, rfl, HT.out, below_drewN (hnx.alloc hsz _) _⟩
        case measure => simp [intOf]; omega
      · have HT := Lib.hid (topTo_same htop hd)
        clear htop
        go_wp2
        go_quiet (fail)
        go_wp2
        go_roundw
        case rel => exact ⟨k + 1, j, by omega, hj, by go_num, rfl, HT.out, below_drewN (hnx.alloc hsz _) _⟩
        case measure => simp [intOf]; omega
    · have HF : Hid (topR l = j) := topR_eq ⟨by rw [Hlen.out]; exact hj, fun i hi => htop.1 i (by rw [Hlen.out] at hi; omega), htop.2⟩
      clear htop
      go_wp2
      go_ret
      exact ⟨ret_int (by rw [HF.out]), hnx⟩

set_option maxRecDepth 100000 in
set_option maxHeartbeats 2000000 in
theorem stands_any : ∀ (m : Nat) (A : Option Addr) (n c : Nat) (l : PL) (d : Int) (w : World), PS w A n c l → n ≤ m → n ≤ 200 → 0 ≤ d → d + n ≤ 1000 →
    Calls Tryz.prog 141 #[.slice A n c, I d] w fun e w' => e = .returned (.bool (stB l d)) ∧ Below w.heap.size w w' := by
  intro m
  induction m with
  | zero =>
    intro A n c l d w h hm _ _ _
    have hl : l = [] := List.eq_nil_of_length_eq_zero (by rw [h.len]; omega)
    have HF : Hid (stB l d = true) := by show _ = _; rw [hl]; exact stB_nil d
    obtain rfl : n = 0 := by omega
    clear hl h
    go_enter Tryz.func141, Tryz.ntmps141
    go_wp2
    go_ret
    exact ⟨by rw [HF.out]; rfl, Below.refl _ _⟩
  | succ m ih =>
    intro A n c l d w h hm hn hd0 hd1
    by_cases h0 : n = 0
    · have hl : l = [] := List.eq_nil_of_length_eq_zero (by rw [h.len]; omega)
      have HF : Hid (stB l d = true) := by show _ = _; rw [hl]; exact stB_nil d
      subst h0
      clear hl h
      go_enter Tryz.func141, Tryz.ntmps141
      go_wp2
      go_ret
      exact ⟨by rw [HF.out]; rfl, Below.refl _ _⟩
    · have hnb : ((n : Int) == 0) = false := by simp; omega
      have hne : l ≠ [] := by intro e; subst e; have := h.len; simp at this; omega
      have htl : topR l < n := by have := topR_lt hne; rw [h.len] at this; exact this
      have HS := Lib.hid (stB_cons hne d)
      have H := Lib.hid h
      have IH := Lib.hid ih
      clear h ih hne
      have htop := topOf_any A n c l w H.out (by omega) (by omega)
      obtain ⟨b, off, rfl, hb, hc⟩ := H.out.dat (by omega)
      have HC := Lib.hid (hc (topR l) htl).2
      have hcap : n ≤ c := H.out.rd.1
      clear hc
      generalize topR l = t at *
      have HTOP := Lib.hid htop
      clear htop
      go_enter Tryz.func141, Tryz.ntmps141
      go_wp2_with fail
      refine HTOP.out.mono ?_
      rintro e w1 ⟨rfl, hb1⟩
      have hc1 : w1.cell? ⟨b, off + t * 2 + 1, none⟩ = some (I (dp l t)) := (hb1.cell (by exact hb)).trans HC.out
      have HB1 := Lib.hid hb1
      clear hb1
      by_cases hdd : dp l t = d
      · have hb0 : (dp l t == d) = true := by simp [hdd]
        have h1 : Hid (decide (dp l t = d) = true) := by show _ = _; simp [hdd]
        rw [h1.out, Bool.true_and] at HS
        have c1 := (IH.out (some ⟨b, off, none⟩) t c (l.take t) (d + 1) w1 ((H.out.below HB1.out).take t (by omega)) (by omega) (by omega) (by omega) (by omega))
        clear hdd h1
        cases hs1 : stB (l.take t) (d + 1) with
        | false =>
          have HF : Hid (stB l d = false) := by show _ = _; rw [HS.out, hs1]; rfl
          rw [hs1] at c1
          have C1 := Lib.hid c1
          clear c1 hs1 HS
          go_wp2_with fail
          refine C1.out.mono ?_
          rintro e w2 ⟨rfl, hb2⟩
          have HB2 := Lib.hid (HB1.out.trans (hb2.mono HB1.out.size))
          clear hb2
          go_wp2
          go_ret
          exact ⟨by rw [HF.out]; rfl, HB2.out⟩
        | true =>
          rw [hs1, Bool.true_and] at HS
          rw [hs1] at c1
          have C1 := Lib.hid c1
          clear c1 hs1
          go_wp2_with fail
          refine C1.out.mono ?_
          rintro e w2 ⟨rfl, hb2⟩
          have HB2 := Lib.hid (HB1.out.trans (hb2.mono HB1.out.size))
          clear hb2
          go_wp2_with fail
          all_goals
            refine (IH.out _ (n - (t + 1)) _ (l.drop (t + 1)) (d + 1) w2 ((H.out.below HB2.out).drop (t + 1) (by omega) _ ?hs ?hcc) (by omega) (by omega) (by omega) (by omega)).mono ?_
            case hs =>
              intro hlt b' off' he
              cases he
              first | rfl | (exfalso; omega)
            case hcc => omega
            rintro e w3 ⟨rfl, hb3⟩
            have HB3 := Lib.hid (HB2.out.trans (hb3.mono HB2.out.size))
            clear hb3
            go_wp2
            go_ret
            exact ⟨by rw [HS.out]; rfl, HB3.out⟩
      · have hb0 : (dp l t == d) = false := by simp [hdd]
        have HF : Hid (stB l d = false) := by show _ = _; rw [HS.out]; simp [hdd]
        clear hdd HS
        go_wp2
        go_ret
        exact ⟨by rw [HF.out]; rfl, HB1.out⟩

end Go.Proofs.YtpnjnedfcdppaaaGreatDoor

/-
  shape.Check, partOf, parentOf.
-/
namespace Go.Proofs.YtpnjnedfcdppaaaGreatDoor
open Go.RowKit

theorem upTo_succ {l : PL} {k : Nat} (h : upTo l k) (hk : 0 < k) (h1 : ky l (k - 1) < ky l k) : upTo l (k + 1) := by
  intro i hi
  rcases Nat.lt_or_ge (i + 1) k with h2 | h2
  · exact h i h2
  · obtain rfl : k = i + 1 := by omega
    simpa using h1

set_option maxRecDepth 100000 in
set_option maxHeartbeats 1000000 in
theorem CheckS_any (A : Option Addr) (n c : Nat) (l : PL) (w : World) (h : PS w A n c l) (hn : n ≤ 9223372036854775807) :
    Calls Tryz.prog 68 #[.slice A n c] w fun e w' => e = .returned (I (chkS l)) ∧ Below w.heap.size w w' := by
  have H := Lib.hid h
  have Hlen := Lib.hid h.len
  clear h
  by_cases h200 : 200 < n
  · have HF : Hid (chkS l = 2) := by show chkS l = 2; unfold chkS; rw [if_pos (by rw [Hlen.out]; exact h200)]
    go_enter Tryz.func68, Tryz.ntmps68
    go_wp2
    go_ret
    exact ⟨ret_int (by rw [HF.out]), Below.refl _ _⟩
  · go_enter Tryz.func68, Tryz.ntmps68
    go_wp2
    go_loopw [3] (fun i wr => ∃ k : Nat, 1 ≤ k ∧ (k ≤ n ∨ k = 1) ∧ i = .int .i64 k ∧ upTo l k ∧ Below w.heap.size w wr) (fun i _ => n - (intOf i).toNat)
    case atStart => exact ⟨1, Nat.le_refl _, .inr rfl, rfl, fun i hi => absurd hi (by omega), Below.refl _ _⟩
    case round =>
      obtain ⟨k, hk1, hk, rfl, hup, hnx⟩ := hrel
      have hsz := hnx.size
      by_cases hlt : k < n
      · obtain ⟨b, off, rfl, hb, hc⟩ := H.out.dat (by omega)
        have hc0 : wr.cell? ⟨b, off + k * 2, none⟩ = some (I (ky l k)) := (hnx.cell (by exact hb)).trans (hc k hlt).1
        have hp0 : wr.cell? ⟨b, off + (k - 1) * 2, none⟩ = some (I (ky l (k - 1))) := (hnx.cell (by exact hb)).trans (hc (k - 1) (by omega)).1
        clear hk hc
        by_cases hge : ky l k ≤ ky l (k - 1)
        · have HF : Hid (chkS l = 3) := by
            show chkS l = 3
            unfold chkS
            rw [if_neg (by rw [Hlen.out]; exact h200), if_neg]
            rintro ⟨ha, _⟩
            have := ha (k - 1) (by rw [Hlen.out]; omega)
            rw [show k - 1 + 1 = k by omega] at this
            omega
          clear hup
          go_wp2
          go_quiet (fail)
          go_wp2
          go_ret
          exact ⟨ret_int (by rw [HF.out]), below_drewN hnx _⟩
        · have HO := Lib.hid (upTo_succ hup hk1 (by omega))
          clear hup
          go_wp2
          go_quiet (fail)
          go_wp2
          go_roundw
          case rel => exact ⟨k + 1, by omega, .inl (by omega), by go_num, HO.out, below_drewN hnx _⟩
          case measure => simp [intOf]; omega
      · have hupn : upTo l l.length := by
          intro i hi
          rw [Hlen.out] at hi
          exact hup i (by omega)
        have hst := stands_any n A n c l 0 wr (H.out.below hnx) (Nat.le_refl _) (by omega) (by omega) (by omega)
        have HNX := Lib.hid hnx
        clear hup hk hnx
        cases hs : stB l 0 with
        | true =>
          have HF : Hid (chkS l = 0) := by
            show chkS l = 0
            unfold chkS
            rw [if_neg (by rw [Hlen.out]; exact h200), if_pos ⟨hupn, hs⟩]
          rw [hs] at hst
          have HST := Lib.hid hst
          clear hs hst hupn
          go_wp2_with fail
          refine HST.out.mono ?_
          rintro e w1 ⟨rfl, hb1⟩
          have HB1 := Lib.hid (HNX.out.trans (hb1.mono HNX.out.size))
          clear hb1
          go_wp2
          go_ret
          exact ⟨ret_int (by rw [HF.out]), HB1.out⟩
        | false =>
          have HF : Hid (chkS l = 3) := by
            show chkS l = 3
            unfold chkS
            rw [if_neg (by rw [Hlen.out]; exact h200), if_neg]
            rintro ⟨_, ha⟩
            rw [hs] at ha
            cases ha
          rw [hs] at hst
          have HST := Lib.hid hst
          clear hs hst hupn
          go_wp2_with fail
          refine HST.out.mono ?_
          rintro e w1 ⟨rfl, hb1⟩
          have HB1 := Lib.hid (HNX.out.trans (hb1.mono HNX.out.size))
          clear hb1
          go_wp2
          go_ret
          exact ⟨ret_int (by rw [HF.out]), HB1.out⟩
theorem CheckS_is (A : Option Addr) (n c : Nat) (l : PL) (w : World) (h : PS w A n c l) (hn : n ≤ 9223372036854775807) (E : Int) (hE : chkS l = E) :
    Calls Tryz.prog 68 #[.slice A n c] w fun e w' => e = .returned (I E) ∧ Below w.heap.size w w' := by
  subst hE; exact CheckS_any A n c l w h hn

theorem frA_go {l : PL} {d : Int} {f : Nat} (h : 0 < f) (hd : d < dp l (f - 1)) : frA l d (f - 1) = frA l d f := by
  obtain ⟨g, rfl⟩ : ∃ g, f = g + 1 := ⟨f - 1, by omega⟩
  rw [frA, if_pos (by simpa using hd)]
  simp
theorem frA_stop {l : PL} {d : Int} {f : Nat} (h : 0 < f → ¬ d < dp l (f - 1)) : frA l d f = f := by
  cases f with
  | zero => rfl
  | succ g => rw [frA, if_neg (by simpa using h (by omega))]
theorem toA_go {l : PL} {d : Int} {t n : Nat} (h : t < n) (hd : d < dp l t) : toA l d (n - (t + 1)) (t + 1) = toA l d (n - t) t := by
  rw [show n - t = n - (t + 1) + 1 by omega, toA, if_pos hd]
theorem toA_stop {l : PL} {d : Int} {t n : Nat} (h : t < n → ¬ d < dp l t) : toA l d (n - t) t = t := by
  rcases Nat.lt_or_ge t n with h1 | h1
  · rw [show n - t = n - (t + 1) + 1 by omega, toA, if_neg (h h1)]
  · rw [show n - t = 0 by omega, toA]

set_option maxRecDepth 100000 in
set_option maxHeartbeats 1000000 in
theorem partOf_any (A : Option Addr) (n c i : Nat) (l : PL) (w : World) (h : PS w A n c l) (hn : n ≤ 1000) (hi : i < n) :
    Calls Tryz.prog 83 #[.slice A n c, I i] w fun e w' => e = .returned (.tuple #[I (frR l i), I (toR l i)]) ∧ Below w.heap.size w w' := by
  have H := Lib.hid h
  have Hlen := Lib.hid h.len
  clear h
  obtain ⟨b, off, rfl, hb, hc⟩ := H.out.dat (by omega)
  have HC : Hid (∀ wr, Below w.heap.size w wr → ∀ j, j < n → wr.cell? ⟨b, off + j * 2 + 1, none⟩ = some (I (dp l j))) := fun wr hnx j hj => (hnx.cell (by exact hb)).trans (hc j hj).2
  clear hc
  go_enter Tryz.func83, Tryz.ntmps83
  go_wp2
  go_loopw [6] (fun x wr => ∃ f : Nat, f ≤ i ∧ x = .int .i64 f ∧ frA l (dp l i) f = frR l i ∧ Below w.heap.size w wr) (fun x _ => (intOf x).toNat)
  case atStart => exact ⟨i, Nat.le_refl _, rfl, rfl, Below.refl _ _⟩
  case round =>
    obtain ⟨f, hf, rfl, hfr, hnx⟩ := hrel
    have hci : wr.cell? ⟨b, off + i * 2 + 1, none⟩ = some (I (dp l i)) := HC.out wr hnx i hi
    by_cases hgo : 0 < f ∧ dp l i < dp l (f - 1)
    · obtain ⟨hf0, hd⟩ := hgo
      have hcf : wr.cell? ⟨b, off + (f - 1) * 2 + 1, none⟩ = some (I (dp l (f - 1))) := HC.out wr hnx (f - 1) (by omega)
      have HR : Hid (frA l (dp l i) (f - 1) = frR l i) := (frA_go hf0 hd).trans hfr
      clear hfr
      go_wp2
      go_quiet (fail)
      go_wp2
      go_roundw
      case rel => exact ⟨f - 1, by omega, by congr 1; omega, HR.out, below_drewN hnx _⟩
      case measure => simp [intOf]; omega
    · have HR : Hid (frR l i = f) := by
        show _ = _
        rw [← hfr]
        exact frA_stop (fun h0 hd => hgo ⟨h0, hd⟩)
      clear hfr
      have hb1 : ∀ q, Below w.heap.size w (wr.drewN q) := fun q => below_drewN hnx q
      have HB1 := Lib.hid hb1
      clear hb1
      by_cases hf0 : 0 < f
      · have hd : ¬ dp l i < dp l (f - 1) := fun h => hgo ⟨hf0, h⟩
        have hcf : wr.cell? ⟨b, off + (f - 1) * 2 + 1, none⟩ = some (I (dp l (f - 1))) := HC.out wr hnx (f - 1) (by omega)
        clear hgo
        go_wp2
        go_quiet (fail)
        go_wp2
        go_loopw [7] (fun x wz => ∃ t : Nat, i + 1 ≤ t ∧ t ≤ n ∧ x = .int .i64 t ∧ toA l (dp l i) (n - t) t = toR l i ∧ Below w.heap.size w wz) (fun x _ => n - (intOf x).toNat)
        case atStart => exact ⟨i + 1, Nat.le_refl _, by omega, by go_num, by unfold toR; rw [Hlen.out], HB1.out _⟩
        case round =>
          obtain ⟨t, ht1, ht2, rfl, hto, hnz⟩ := hrel
          have hci : wr.cell? ⟨b, off + i * 2 + 1, none⟩ = some (I (dp l i)) := HC.out wr hnz i hi
          by_cases hgo : t < n ∧ dp l i < dp l t
          · obtain ⟨htn, hd⟩ := hgo
            have hcf : wr.cell? ⟨b, off + t * 2 + 1, none⟩ = some (I (dp l t)) := HC.out wr hnz t htn
            have HT : Hid (toA l (dp l i) (n - (t + 1)) (t + 1) = toR l i) := (toA_go htn hd).trans hto
            clear hto
            go_wp2
            go_quiet (fail)
            go_wp2
            go_roundw
            case rel => exact ⟨t + 1, by omega, by omega, by go_num, HT.out, below_drewN hnz _⟩
            case measure => simp [intOf]; omega
          · have HT : Hid (toR l i = t) := by
              show _ = _
              rw [← hto]
              exact toA_stop (fun h0 hd => hgo ⟨h0, hd⟩)
            clear hto
            by_cases htn : t < n
            · have hd : ¬ dp l i < dp l t := fun h => hgo ⟨htn, h⟩
              have hcf : wr.cell? ⟨b, off + t * 2 + 1, none⟩ = some (I (dp l t)) := HC.out wr hnz t htn
              clear hgo
              go_wp2
              go_quiet (fail)
              go_wp2
              go_ret2
              exact ⟨by rw [HR.out, HT.out]; rfl, below_drewN hnz _⟩
            · have hd : decide (t < n) = false := by simpa using htn
              clear hgo
              go_wp2
              go_quiet (fail)
              go_wp2
              go_ret2
              exact ⟨by rw [HR.out, HT.out]; rfl, below_drewN hnz _⟩
      · have hd : decide (0 < f) = false := by simpa using hf0
        clear hgo
        go_wp2
        go_quiet (fail)
        go_wp2
        go_loopw [7] (fun x wz => ∃ t : Nat, i + 1 ≤ t ∧ t ≤ n ∧ x = .int .i64 t ∧ toA l (dp l i) (n - t) t = toR l i ∧ Below w.heap.size w wz) (fun x _ => n - (intOf x).toNat)
        case atStart => exact ⟨i + 1, Nat.le_refl _, by omega, by go_num, by unfold toR; rw [Hlen.out], HB1.out _⟩
        case round =>
          obtain ⟨t, ht1, ht2, rfl, hto, hnz⟩ := hrel
          have hci : wr.cell? ⟨b, off + i * 2 + 1, none⟩ = some (I (dp l i)) := HC.out wr hnz i hi
          by_cases hgo : t < n ∧ dp l i < dp l t
          · obtain ⟨htn, hd⟩ := hgo
            have hcf : wr.cell? ⟨b, off + t * 2 + 1, none⟩ = some (I (dp l t)) := HC.out wr hnz t htn
            have HT : Hid (toA l (dp l i) (n - (t + 1)) (t + 1) = toR l i) := (toA_go htn hd).trans hto
            clear hto
            go_wp2
            go_quiet (fail)
            go_wp2
            go_roundw
            case rel => exact ⟨t + 1, by omega, by omega, by go_num, HT.out, below_drewN hnz _⟩
            case measure => simp [intOf]; omega
          · have HT : Hid (toR l i = t) := by
              show _ = _
              rw [← hto]
              exact toA_stop (fun h0 hd => hgo ⟨h0, hd⟩)
            clear hto
            by_cases htn : t < n
            · have hd : ¬ dp l i < dp l t := fun h => hgo ⟨htn, h⟩
              have hcf : wr.cell? ⟨b, off + t * 2 + 1, none⟩ = some (I (dp l t)) := HC.out wr hnz t htn
              clear hgo
              go_wp2
              go_quiet (fail)
              go_wp2
              go_ret2
              exact ⟨by rw [HR.out, HT.out]; rfl, below_drewN hnz _⟩
            · have hd : decide (t < n) = false := by simpa using htn
              clear hgo
              go_wp2
              go_quiet (fail)
              go_wp2
              go_ret2
              exact ⟨by rw [HR.out, HT.out]; rfl, below_drewN hnz _⟩

theorem frR_le (l : PL) (i : Nat) : frR l i ≤ i := frA_le _ _ _
theorem toR_bd (l : PL) (i : Nat) (h : i < l.length) : i < toR l i ∧ toR l i ≤ l.length := by
  have := toA_le l (dp l i) (l.length - (i + 1)) (i + 1)
  unfold toR
  omega

set_option maxRecDepth 100000 in
set_option maxHeartbeats 1000000 in
theorem parentOf_any (A : Option Addr) (n c i : Nat) (l : PL) (w : World) (h : PS w A n c l) (hn : n ≤ 1000) (hi : i < n) :
    Calls Tryz.prog 82 #[.slice A n c, I i] w fun e w' => e = .returned (I (par l i)) ∧ Below w.heap.size w w' := by
  have H := Lib.hid h
  have Hlen := Lib.hid h.len
  have hpart := partOf_any A n c i l w h hn hi
  have hf := frR_le l i
  have ht := toR_bd l i (by rw [h.len]; exact hi)
  have HP : Hid (par l i = if toR l i = l.length then (frR l i : Int) - 1 else if frR l i = 0 ∨ dp l (frR l i - 1) < dp l (toR l i) then toR l i else (frR l i : Int) - 1) := rfl
  rw [h.len] at ht HP
  obtain ⟨b, off, rfl, hb, hc⟩ := H.out.dat (by omega)
  have HC : Hid (∀ wr, Below w.heap.size w wr → ∀ j, j < n → wr.cell? ⟨b, off + j * 2 + 1, none⟩ = some (I (dp l j))) := fun wr hnx j hj => (hnx.cell (by exact hb)).trans (hc j hj).2
  clear hc h
  generalize frR l i = f at *
  generalize toR l i = t at *
  have HPART := Lib.hid hpart
  clear hpart
  by_cases htn : t = n
  · have HF : Hid (par l i = (f : Int) - 1) := by show _ = _; rw [HP.out, if_pos htn]
    have hq : ((t : Int) == (n : Int)) = true := by simp [htn]
    clear HP htn
    go_enter Tryz.func82, Tryz.ntmps82
    go_wp2_with fail
    refine HPART.out.mono ?_
    rintro e w1 ⟨rfl, hb1⟩
    have HB1 := Lib.hid hb1
    clear hb1
    go_wp2
    go_ret
    exact ⟨ret_int (by rw [HF.out]), HB1.out⟩
  · have hq : ((t : Int) == (n : Int)) = false := by simp; omega
    have htl : t < n := by omega
    rw [if_neg htn] at HP
    clear htn
    by_cases hf0 : f = 0
    · have HF : Hid (par l i = t) := by show _ = _; rw [HP.out, if_pos (.inl hf0)]
      subst hf0
      clear HP
      go_enter Tryz.func82, Tryz.ntmps82
      go_wp2_with fail
      refine HPART.out.mono ?_
      rintro e w1 ⟨rfl, hb1⟩
      have HB1 := Lib.hid hb1
      clear hb1
      go_wp2
      go_quiet (fail)
      go_wp2
      go_ret
      exact ⟨ret_int (by rw [HF.out]), below_drewN HB1.out _⟩
    · by_cases hd : dp l (f - 1) < dp l t
      · have HF : Hid (par l i = t) := by show _ = _; rw [HP.out, if_pos (.inr hd)]
        have hfp : 0 < f := by omega
        have hg : decide ((f : Int) - 1 < 0) = false := by simp; omega
        clear HP hf0
        go_enter Tryz.func82, Tryz.ntmps82
        go_wp2_with fail
        refine HPART.out.mono ?_
        rintro e w1 ⟨rfl, hb1⟩
        have hx : w1.cell? ⟨b, off + (f - 1) * 2 + 1, none⟩ = some (I (dp l (f - 1))) := HC.out w1 hb1 _ (by omega)
        have hy : w1.cell? ⟨b, off + t * 2 + 1, none⟩ = some (I (dp l t)) := HC.out w1 hb1 _ htl
        have HB1 := Lib.hid hb1
        clear hb1
        go_wp2
        go_quiet (fail)
        go_wp2
        go_ret
        exact ⟨ret_int (by rw [HF.out]), below_drewN HB1.out _⟩
      · have HF : Hid (par l i = (f : Int) - 1) := by show _ = _; rw [HP.out, if_neg (by rintro (h | h); exact hf0 h; exact hd h)]
        have hfp : 0 < f := by omega
        have hg : decide ((f : Int) - 1 < 0) = false := by simp; omega
        clear HP hf0
        go_enter Tryz.func82, Tryz.ntmps82
        go_wp2_with fail
        refine HPART.out.mono ?_
        rintro e w1 ⟨rfl, hb1⟩
        have hx : w1.cell? ⟨b, off + (f - 1) * 2 + 1, none⟩ = some (I (dp l (f - 1))) := HC.out w1 hb1 _ (by omega)
        have hy : w1.cell? ⟨b, off + t * 2 + 1, none⟩ = some (I (dp l t)) := HC.out w1 hb1 _ htl
        have HB1 := Lib.hid hb1
        clear hb1
        go_wp2
        go_quiet (fail)
        go_wp2
        go_ret
        exact ⟨ret_int (by rw [HF.out]), below_drewN HB1.out _⟩

end Go.Proofs.YtpnjnedfcdppaaaGreatDoor
