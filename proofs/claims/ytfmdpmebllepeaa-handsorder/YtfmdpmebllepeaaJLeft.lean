/-
  package hands: left: the keys without a mark, by nexts.
-/
import Derived.Test.YtfmdpmebllepeaaJRun1
import Derived.Test.YtfmdpmebllepeaaInts
import Derived.Test.YtfmdpmebllepeaaMLivesAll
import Derived.Test.YtfmdpmebllepeaaSRow
namespace Go.Proofs.Ytfmdpmebllepeaa
open Go.RowKit

/-- a list in memory that is only read -/
structure JLs (w : World) (ad : Nat → Nat) (s : Bs) (lk : Nat → Bool) : Prop where
  bd : ∀ i, i < s.sz → JBead w ad s lk i
theorem JLs.cells {w : World} {ad : Nat → Nat} {s : Bs} {lk : Nat → Bool} (h : JLs w ad s lk) {i : Nat} (hi : i < s.sz) :
    w.cell? ⟨ad i, 0, none⟩ = some (I (s.key i)) ∧ w.cell? ⟨ad i, 1, none⟩ = some (jnx s ad i) ∧ w.cell? ⟨ad i, 2, none⟩ = some (.bool (s.mrk i)) := by
  have := h.bd i hi
  exact ⟨by rw [jcell this]; rfl, by rw [jcell this]; rfl, by rw [jcell this]; rfl⟩
theorem JLs.below {w w' : World} {ad : Nat → Nat} {s : Bs} {lk : Nat → Bool} (h : JLs w ad s lk) (hb : Below w.heap.size w w') : JLs w' ad s lk := ⟨fun i hi => (hb.block _ (jblk (h.bd i hi))).trans (h.bd i hi)⟩
/-- n beads are left from c on -/
theorem lft_cons_f {s : Bs} {n c : Nat} (h : s.mrk c = false) : lft s (n + 1) c = s.key c :: lft s n (s.nx c) := by show (if s.mrk c = true then _ else _) = _; rw [if_neg (by rw [h]; decide)]
theorem lft_cons_t {s : Bs} {n c : Nat} (h : s.mrk c = true) : lft s (n + 1) c = lft s n (s.nx c) := by show (if s.mrk c = true then _ else _) = _; rw [if_pos h]
/-- a row in new memory -/
def RetK (L : List Int) (w : World) (e : Ending) (w' : World) : Prop := ∃ v, e = .returned v ∧ OwnI w' w.heap.size v L ∧ Below w.heap.size w w'
set_option maxRecDepth 100000 in
set_option maxHeartbeats 4000000 in
theorem left_any {ad : Nat → Nat} {s : Bs} {lk : Nat → Bool} {w : World} {n : Nat} (h : JLs w ad s lk) (h0 : 0 < s.sz) (h0t : 0 ≠ s.tl) (htl : s.tl < s.sz) (hnl : ∀ i, i < s.sz → i ≠ s.tl → s.nx i < s.sz) (hk : s.key s.tl = 10) (hk2 : ∀ i, i < s.sz → i ≠ s.tl → s.key i ≠ 10) (hup : ∀ i, i < s.sz → i ≠ s.tl → s.key i < s.key (s.nx i)) (hkb : ∀ i, i < s.sz → s.key i ≤ 10) (hp : Pn s.nx s.tl (s.nx 0) n) (hn : n ≤ 1000) :
    Calls Try.prog 72 #[jp (ad 0)] w (RetK (lft s n (s.nx 0)) w) := by
  have H := Lib.hid h
  have HNL := Lib.hid hnl
  have HK := Lib.hid hk
  have HK2 := Lib.hid hk2
  have HUP := Lib.hid hup
  have HKB := Lib.hid hkb
  have HT := Lib.hid htl
  have HP := Lib.hid hp
  obtain ⟨-, c1, -⟩ := h.cells h0
  rw [jnx_ne h0t] at c1
  obtain ⟨i0, hi, hz0, hz1, hz2⟩ := jinfo_parts int_info
  have HI := Lib.hid hi
  have HZ0 := Lib.hid hz0
  have HZ1 := Lib.hid hz1
  have HZ2 := Lib.hid hz2
  have HS0 : Hid (s.nx 0 < s.sz) := hnl 0 h0 h0t
  clear h hnl hk hk2 htl hp hup hkb hi hz0 hz1 hz2
  go_enter Try.func72, Try.ntmps72
  go_wp2
  go_loopw [3, 4] (fun kv cv wr => ∃ (c m : Nat) (K : List Int), cv = jp (ad c) ∧ c < s.sz ∧ Pn s.nx s.tl c m ∧ m ≤ n ∧ K.length + m ≤ n ∧ K ++ lft s m c = lft s n (s.nx 0) ∧ OwnI wr w.heap.size kv K ∧ Below w.heap.size w wr) (fun kv cv wr => match cv with | .pointer (some a) => (match wr.cell? ⟨a.block, 0, none⟩ with | some (.int _ x) => (10 - x).toNat | _ => 0) | _ => 0)
  case atStart => exact ⟨s.nx 0, n, [], rfl, HS0.out, HP.out, Nat.le_refl _, by simp, rfl, ⟨rfl, .inl ⟨rfl, rfl⟩⟩, Below.refl _ _⟩
  case round =>
    obtain ⟨c, m, K, rfl, hc, hpc, hmn, hKm, hKe, hown, hbl⟩ := hrel
    have hb0 := (H.out.below hbl).cells hc
    obtain ⟨k0, k1, k2⟩ := hb0
    have HOWN := Lib.hid hown
    have HBL := Lib.hid hbl
    have HKE := Lib.hid hKe
    have hsz := hbl.size
    by_cases e : c = s.tl
    · subst e
      rw [HK.out] at k0
      have hm0 : m = 0 := by cases hpc with | last => rfl | step a _ => exact absurd rfl a
      subst hm0
      clear hpc hown hbl hKe k1 k2
      go_wp2
      go_ret
      refine ⟨_, rfl, ?_, HBL.out⟩
      have := HKE.out
      rw [show lft s 0 s.tl = [] from rfl, List.append_nil] at this
      rw [← this]
      exact HOWN.out
    · have hk10 := HK2.out c hc e
      have hnx := HNL.out c hc e
      have hup1 := HUP.out c hc e
      have hkb1 := HKB.out _ hnx
      rw [jnx_ne e] at k1
      obtain ⟨m', rfl, hpc'⟩ : ∃ m', m = m' + 1 ∧ Pn s.nx s.tl (s.nx c) m' := by
        cases hpc with
        | last => exact absurd rfl e
        | step _ h => exact ⟨_, rfl, h⟩
      have kn : wr.cell? ⟨ad (s.nx c), 0, none⟩ = some (I (s.key (s.nx c))) := ((H.out.below hbl).cells hnx).1
      have HP1 := Lib.hid hpc'
      have HE := Lib.hid e
      obtain ⟨x, hx⟩ : ∃ x, s.key c = x := ⟨_, rfl⟩
      obtain ⟨y, hy⟩ : ∃ y, s.key (s.nx c) = y := ⟨_, rfl⟩
      rw [hx] at k0 hk10 hup1
      rw [hy] at kn hup1 hkb1
      have HX := Lib.hid hx
      have HY := Lib.hid hy
      cases hmk : s.mrk c with
      | true =>
        rw [hmk] at k2
        have HMK := Lib.hid hmk
        clear hpc hpc' hown hbl hKe e hx hy hmk
        go_wp2
        go_roundw
        case rel => exact ⟨s.nx c, m', K, rfl, hnx, HP1.out, by omega, by omega, by rw [← HKE.out, lft_cons_t HMK.out], HOWN.out, HBL.out⟩
        case measure => simp [kn, k0]; omega
      | false =>
        rw [hmk] at k2
        have HMK := Lib.hid hmk
        obtain ⟨q, hq⟩ : ∃ q, K.length = q := ⟨_, rfl⟩
        have HQ := Lib.hid hq
        have hown1 : wr.ownsRow w.heap.size 3 1 u3 q (K.map I) := by rw [← hq]; exact hown
        have HOWN1 := Lib.hid hown1
        have hal := jblk (H.out.below hbl |>.bd c hc)
        have hal2 := jblk (H.out.below hbl |>.bd _ hnx)
        have HJ := Lib.hid (H.out.below hbl)
        rw [hq] at hKm
        clear hpc hpc' hown hbl hKe e hx hy hmk hown1 hq
        go_wp2_with (first
          | (at_builtin
             refine wpList_append_own_at _ rfl (.tmp 23) (.tmp 28) 22 rfl w.heap.size 3 i0 _ 1 8 Try.underlying22 HI.out HZ0.out HZ1.out HZ2.out rfl (by omega) u3 q (K.map I) rfl (own_below HOWN1.out ((Below.refl _ _).alloc (Nat.le_refl _) _)) ⟨wr.heap.size, 0, none⟩ 1 1 [I x] rfl rfl (cell_one_new _ _ _) (one_I x) (by unfold maxLen; omega) (by omega) (by simp; omega) ?_
             intro v2 w2 hown2 hgrow2 _ _
             have hb2 : Below w.heap.size w w2 := ((HBL.out.alloc hsz _)).grown hgrow2 (by simp; omega) (own_ge1 HOWN1.out)
             have hk2 : ∀ i, i < s.sz → w2.heap[ad i]? = wr.heap[ad i]? := fun i hi => by
               have hbi := HJ.out.bd i hi
               unfold JBead at hbi
               rw [hgrow2.block (ad i) (by have := jblk hbi; simp; omega) (fun e => by
                 rcases HOWN1.out.2 with ⟨h1, _⟩ | ⟨g, cap, cur, h1, _, h3, _⟩
                 · rw [h1] at e; simp [Value.ownBlock] at e
                 · rw [h1] at e
                   have e2 := Option.some.inj e
                   rw [e2] at hbi
                   simp at hbi
                   rw [h3] at hbi
                   injection hbi with hbi
                   injection hbi with _ hbi
                   exact absurd hbi (by decide))]
               exact Below.heap_alloc _ _ _ (jblk hbi)
             have l1 : w2.cell? ⟨ad c, 1, none⟩ = some (jp (ad (s.nx c))) := (World.cell?_of_block (w := wr) (hk2 c hc)).trans k1
             have l0 : w2.cell? ⟨ad (s.nx c), 0, none⟩ = some (I y) := (World.cell?_of_block (w := wr) (hk2 _ hnx)).trans kn
             have HO2 := Lib.hid hown2
             have HB2 := Lib.hid hb2
             clear hown2 hgrow2 hb2 hk2)
          | fail)
        go_roundw
        case rel =>
          refine ⟨s.nx c, m', K ++ [x], rfl, hnx, HP1.out, by omega, by simp [HQ.out]; omega, ?_, ?_, HB2.out⟩
          · rw [← HKE.out, lft_cons_f HMK.out, HX.out]
            simp
          · have e1 : (K ++ [x]).length = q + 1 := by simp [HQ.out]
            unfold OwnI
            rw [e1]
            simpa using HO2.out
        case measure => simp [l0, k0]; omega

end Go.Proofs.Ytfmdpmebllepeaa
