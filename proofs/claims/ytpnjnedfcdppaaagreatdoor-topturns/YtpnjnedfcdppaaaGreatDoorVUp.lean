/-
  package vine: a tree in memory; comeUp.
-/
import Derived.Test.YtpnjnedfcdppaaaGreatDoorVLeaf
import Derived.Test.YtpnjnedfcdppaaaGreatDoorDAnsAll
import Derived.Deep.AppendLies
namespace Go.Proofs.YtpnjnedfcdppaaaGreatDoor
open Go.RowKit

theorem vcells_set {w : World} {g t : Nat} {cs : List Value} (h : w.heap[g]? = some (.cells cs.toArray t (0, 0))) (i : Nat) (v : Value) : (w.setCell ⟨g, i, none⟩ v).heap[g]? = some (.cells (cs.set i v).toArray t (0, 0)) := by
  rw [setCell_eq_setRow w g i _ t (0, 0) v h, setRow_heap w g _ _ t (0, 0) h]
  simp
theorem vown_of {w w' : World} {base e s n : Nat} {v : Value} {xs : List Value} (h : w.ownsRow base e s v n xs) (hk : ∀ g, v.ownBlock = some g → w'.heap[g]? = w.heap[g]?) : w'.ownsRow base e s v n xs := by
  refine ⟨h.1, ?_⟩
  rcases h.2 with h0 | ⟨g, cap, cur, rfl, h2, h3, h4⟩
  · exact .inl h0
  · exact .inr ⟨g, cap, cur, rfl, h2, (hk g rfl).trans h3, h4⟩
theorem vown_lt {w : World} {base e s n : Nat} {v : Value} {xs : List Value} (h : w.ownsRow base e s v n xs) : ∀ g, v.ownBlock = some g → g < w.heap.size := by
  intro g hg
  rcases h.2 with ⟨rfl, _⟩ | ⟨g', cap, cur, rfl, _, h3, _⟩
  · simp [Value.ownBlock] at hg
  · simp [Value.ownBlock] at hg
    subst hg
    exact (Array.getElem?_eq_some_iff.1 h3).1
theorem vown_far {w : World} {base e s n : Nat} {v : Value} {xs : List Value} (h : w.ownsRow base e s v n xs) {p : Addr} (hp : v.ownBlock ≠ some p.block) (u : Value) : (w.setCell p u).ownsRow base e s v n xs :=
  vown_of h fun g hg => Below.heap_setCell w p u g (fun e => hp (by rw [hg, e]))
theorem vps_grown {w w' : World} {n c : Nat} {A : Option Addr} {l : PL} {row : Option Nat} (h : PS w A n c l) (hg : w.grownBy w' row) (hne : ∀ ad, A = some ad → row ≠ some ad.block) : PS w' A n c l := by
  refine ⟨h.len, h.rd.1, fun hn => ?_⟩
  obtain ⟨b, off, e, hb, hc⟩ := h.rd.2 hn
  refine ⟨b, off, e, Nat.lt_of_lt_of_le hb hg.size, fun i hi j hj => ?_⟩
  rw [World.cell?_of_block (hg.block b hb (fun e' => hne _ e e'.symm))]
  exact hc i hi j hj

/-- the tree's own block -/
def VB (w : World) (q : Nat) (s u : Value) : Prop := w.heap[q]? = some (.cells #[s, u] 142 (0, 0))
theorem VB.lt {w : World} {q : Nat} {s u : Value} (h : VB w q s u) : q < w.heap.size := (Array.getElem?_eq_some_iff.1 h).1
theorem VB.cells {w : World} {q : Nat} {s u : Value} (h : VB w q s u) : w.cell? ⟨q, 0, none⟩ = some s ∧ w.cell? ⟨q, 1, none⟩ = some u := by
  have h' : w.heap[q]? = _ := h
  refine ⟨?_, ?_⟩ <;> simp [World.cell?, h']
theorem VB.frozen {w : World} {q : Nat} {s u : Value} (h : VB w q s u) (i : Nat) : w.frozen? ⟨q, i, none⟩ = false := by
  have h' : w.heap[q]? = _ := h
  simp [World.frozen?, h']
theorem VB.below {w w' : World} {q B : Nat} {s u : Value} (h : VB w q s u) (hb : Below B w w') (hB : q < B) : VB w' q s u := (hb.block q hB).trans h
theorem VB.set0 {w : World} {q : Nat} {s u : Value} (h : VB w q s u) (x : Value) : VB (w.setCell ⟨q, 0, none⟩ x) q x u := by
  have := vcells_set (cs := [s, u]) h 0 x
  simpa [VB] using this
theorem VB.set1 {w : World} {q : Nat} {s u : Value} (h : VB w q s u) (x : Value) : VB (w.setCell ⟨q, 1, none⟩ x) q s x := by
  have := vcells_set (cs := [s, u]) h 1 x
  simpa [VB] using this

/-- the tree in memory: its spots, and the keys that came up -/
structure VT (w : World) (base q : Nat) (A : Option Addr) (c : Nat) (u : Value) (L : PL) (U : List Int) : Prop where
  ge : base ≤ q
  blk : VB w q (.slice A L.length c) u
  ps : PS w A L.length c L
  far : 0 < L.length → ∀ ad, A = some ad → base ≤ ad.block ∧ ad.block ≠ q ∧ u.ownBlock ≠ some ad.block
  own : OwnI w base u U
  apt : u.ownBlock ≠ some q
theorem VT.new {w : World} {base : Nat} {A : Option Addr} {c : Nat} {u : Value} {L : PL} {U : List Int} (hbase : base ≤ w.heap.size) (hps : PS w A L.length c L) (hown : OwnI w base u U) (hf : 0 < L.length → ∀ ad, A = some ad → base ≤ ad.block ∧ u.ownBlock ≠ some ad.block) :
    VT (w.alloc (.cells #[.slice A L.length c, u] 142)) base w.heap.size A c u L U := by
  refine ⟨hbase, heap_alloc_new w _, hps.alloc _, fun h0 ad ha => ⟨(hf h0 ad ha).1, ?_, (hf h0 ad ha).2⟩, own_below hown ((Below.refl _ _).alloc (Nat.le_refl _) _), fun h => ?_⟩
  · obtain ⟨b, off, e, hb, _⟩ := hps.rd.2 h0
    rw [ha] at e
    cases e
    simp at hb ⊢
    omega
  · have := vown_lt hown _ h
    omega
theorem VT.below {w w' : World} {base q : Nat} {A : Option Addr} {c : Nat} {u : Value} {L : PL} {U : List Int} (h : VT w base q A c u L U) (hb : Below w.heap.size w w') : VT w' base q A c u L U :=
  ⟨h.ge, h.blk.below hb h.blk.lt, h.ps.below hb, h.far, own_below h.own hb, h.apt⟩
/-- each block but the tree's own, and that of its keys, is as it was -/
def Kp (w w' : World) (q : Nat) (u u' : Value) : Prop := ∀ g, g < w.heap.size → g ≠ q → u.ownBlock ≠ some g → w'.heap[g]? = w.heap[g]? ∧ u'.ownBlock ≠ some g
theorem Kp.trans {w w1 w2 : World} {q : Nat} {u u1 u2 : Value} (h : Kp w w1 q u u1) (h2 : Kp w1 w2 q u1 u2) (hz : w.heap.size ≤ w1.heap.size) : Kp w w2 q u u2 := fun g hg hq hu => by
  obtain ⟨a, b⟩ := h g hg hq hu
  obtain ⟨a2, b2⟩ := h2 g (by omega) hq b
  exact ⟨a2.trans a, b2⟩
theorem Kp.of_below {w w' : World} (hb : Below w.heap.size w w') (q : Nat) (u : Value) : Kp w w' q u u := fun g hg _ hu => ⟨hb.block g hg, hu⟩
def RetV (base q : Nat) (u : Value) (L : PL) (U : List Int) (w : World) (e : Ending) (w' : World) : Prop := e = .returned (.tuple #[]) ∧ (∃ A c u', VT w' base q A c u' L U ∧ Kp w w' q u u') ∧ Below base w w'


theorem own_some {g n c : Nat} : (Value.slice (some ⟨g, 0, none⟩) n c).ownBlock = some g := rfl

set_option maxRecDepth 100000 in
set_option maxHeartbeats 2000000 in
theorem comeUp_any (base q i : Nat) (A : Option Addr) (c : Nat) (u : Value) (L : PL) (U : List Int) (w : World) (h : VT w base q A c u L U) (hT : IsTree L) (hi : i < L.length) (hd : dp L i ≠ 0) (hU : U.length ≤ 10000) :
    Calls Tryz.prog 154 #[.pointer (some ⟨q, 0, none⟩), I i] w (RetV base q u (turnL L i) (U ++ [ky L i]) w) := by
  obtain ⟨n, hn⟩ : ∃ n, L.length = n := ⟨_, rfl⟩
  have hn2 : n ≤ 200 := by rw [← hn]; exact hT.1
  have hix : ixK L (ky L i) = i := ixK_hit hi rfl (fun x hx e => by have := up_lt hT.2.1 x i hx hi; omega)
  obtain ⟨j, _, htd⟩ := turned_of hT hi hd
  have HTL := Lib.hid (htd.len.trans hn)
  have hge := h.ge
  have hblk := h.blk
  have hps := h.ps
  have HFAR := Lib.hid h.far
  have HAPT := Lib.hid h.apt
  rw [hn] at hblk hps hi
  have HBLK := Lib.hid hblk
  have HPS := Lib.hid hps
  obtain ⟨hq0, hq1⟩ := hblk.cells
  have hlt := hblk.lt
  obtain ⟨b, off, rfl, hb, hc⟩ := hps.dat (by omega)
  obtain ⟨Au, cu, rfl, -, -⟩ := h.own.is_
  obtain ⟨m, hm⟩ : ∃ m, U.length = m := ⟨_, rfl⟩
  have HM := Lib.hid hm
  have hown0 : w.ownsRow base 3 1 (.slice Au U.length cu) U.length (U.map I) := h.own
  have HOWN := Lib.hid hown0
  rw [hm] at hq1 HOWN HFAR HAPT HBLK hU
  clear hm hown0
  have hc0 := (hc i hi).1
  obtain ⟨key, hkey⟩ : ∃ key, ky L i = key := ⟨_, rfl⟩
  rw [hkey] at hc0 hix ⊢
  have HTURN := Lib.hid (Turn_ok (some ⟨b, off, none⟩) n c i L key w hps hT hix hi hd)
  have HN := Lib.hid hn
  obtain ⟨i0, hi0, hz0, hz1, hz2⟩ := info_parts int_info
  have HI := Lib.hid hi0
  have HZ0 := Lib.hid hz0
  have HZ1 := Lib.hid hz1
  have HZ2 := Lib.hid hz2
  clear hi0 hz0 hz1 hz2 h hT hd hix htd hblk hps hc hn hkey
  go_enter Tryz.func154, Tryz.ntmps154
  go_wp2_with fail
  refine HTURN.out.mono ?_
  rintro e w1 ⟨A1, n1, c1, rfl, hps1, hb1, hf1⟩
  obtain rfl : n1 = n := by rw [← hps1.len, HTL.out]
  have hblk1 := HBLK.out.below hb1 hlt
  obtain ⟨hq10, hq11⟩ := hblk1.cells
  have hfz1 := hblk1.frozen 0
  have hlt1 := hblk1.lt
  have hown1 : w1.ownsRow base 3 1 (.slice Au m cu) m (U.map I) := own_below HOWN.out hb1
  -- the spots are stored
  have hblk2 := hblk1.set0 (.slice A1 n1 c1)
  have hps2 : PS (w1.setCell ⟨q, 0, none⟩ (.slice A1 n1 c1)) A1 n1 c1 (turnL L i) := hps1.far (p := ⟨q, 0, none⟩) (fun ad ha => by have := hf1 ad ha; show ad.block ≠ q; omega) _
  have hown2 : (w1.setCell ⟨q, 0, none⟩ (.slice A1 n1 c1)).ownsRow base 3 1 (.slice Au m cu) m (U.map I) := vown_far (p := ⟨q, 0, none⟩) hown1 HAPT.out _
  have hb2 : Below base w (w1.setCell ⟨q, 0, none⟩ (.slice A1 n1 c1)) := (hb1.mono (by omega)).setCell (B := base) (p := ⟨q, 0, none⟩) hge _
  have hsz2 : (w1.setCell ⟨q, 0, none⟩ (.slice A1 n1 c1)).heap.size = w1.heap.size := by simp [World.setCell]
  have HW2 : ∃ w2, Hid (w2 = w1.setCell ⟨q, 0, none⟩ (.slice A1 n1 c1)) := ⟨_, Lib.hid rfl⟩
  obtain ⟨w2, HW2⟩ := HW2
  have HK12 : Hid (∀ g, g < w.heap.size → g ≠ q → w2.heap[g]? = w.heap[g]?) := fun g hg hq => by
    rw [HW2.out, Below.heap_setCell _ _ _ g hq]
    exact hb1.block g hg
  have hz2 : w.heap.size ≤ w2.heap.size := by rw [HW2.out, hsz2]; exact hb1.size
  have hf2 : ∀ ad, A1 = some ad → w.heap.size ≤ ad.block := hf1
  have HF2 := Lib.hid hf2
  rw [← HW2.out] at hblk2 hps2 hown2 hb2
  have HBLK2 := Lib.hid hblk2
  have HPS2 := Lib.hid hps2
  have HOWN2 := Lib.hid hown2
  have HB2 := Lib.hid hb2
  clear hb1 hf1 hps1 hblk1 hown1 hblk2 hps2 hown2 hb2 hf2 hsz2
  have HOLT := Lib.hid (vown_lt HOWN.out)
  have hlt2 := HBLK2.out.lt
  have hz12 : w2.heap.size = w1.heap.size := by rw [HW2.out]; simp [World.setCell]
  have HNEW : Hid (∀ j u, [I key][j]? = some u → (w2.alloc (.cells #[I key] 3)).cell? ((⟨w1.heap.size, 0, none⟩ : Addr).add j) = some u) := by
    have := cell_one_new w2 (I key) 3
    rw [hz12] at this
    simpa [Hid] using this
  have hsa : base ≤ (w2.alloc (.cells #[I key] 3)).heap.size := by simp; omega
  go_wp2_with (first
    | (at_builtin
       rw [← HW2.out]
       refine wpList_append_lies _ rfl (.tmp 29) (.tmp 31) 46 rfl base 3 i0 _ 1 8 Tryz.underlying46 HI.out HZ0.out HZ1.out HZ2.out rfl (by omega) (.slice Au m cu) m (U.map I) rfl (own_below HOWN2.out ((Below.refl _ _).alloc (Nat.le_refl _) _)) ⟨w1.heap.size, 0, none⟩ 1 1 [I key] rfl rfl HNEW.out (one_I key) (by omega) (by unfold maxLen; omega) (by omega) hsa (w2.heap.size + 1) (by simp) ?_
       intro g3 cap3 w3 hown3 hgrow3 hat3 hlt3
       have hblk3 : VB w3 q (.slice A1 n1 c1) (.slice Au m cu) := by
         show w3.heap[q]? = _
         rw [hgrow3.block q (by simp; omega) (fun e => HAPT.out e.symm), Below.heap_alloc _ _ _ hlt2]
         exact HBLK2.out
       obtain ⟨hq30, hq31⟩ := hblk3.cells
       have hfz3 := hblk3.frozen 1
       have hlq3 := hblk3.lt
       have HBLK3 := Lib.hid hblk3
       clear hblk3)
    | fail)
  go_end0
  have hnq : g3 ≠ q := fun e => by
    rcases hat3 with h | h
    · exact HAPT.out (by rw [h, e])
    · omega
  refine ⟨rfl, ⟨A1, c1, .slice (some ⟨g3, 0, none⟩) (m + 1) cap3, ⟨hge, ?_, ?_, ?_, ?_, ?_⟩, ?_⟩, ?_⟩
  · rw [HTL.out]
    exact HBLK3.out.set1 _
  · rw [HTL.out]
    refine PS.far (p := ⟨q, 1, none⟩) ?_ (fun ad ha => by have := HF2.out ad ha; show ad.block ≠ q; omega) _
    refine vps_grown (HPS2.out.alloc _) hgrow3 (fun ad ha h => ?_)
    have h1 := HF2.out ad ha
    have h2 := HOLT.out _ h
    omega
  · intro _ ad ha
    have h1 := HF2.out ad ha
    refine ⟨by omega, by omega, fun h => ?_⟩
    rw [own_some] at h
    rcases hat3 with h3 | h3
    · have := HOLT.out _ (h3.trans h)
      omega
    · have h4 := Option.some.inj h
      have h5 := HPS2.out.rd.2 (by omega)
      obtain ⟨b', off', e', hb', _⟩ := h5
      rw [ha] at e'
      cases e'
      simp at h4 hb'
      omega
  · have := vown_far (p := ⟨q, 1, none⟩) hown3 (fun h => hnq (Option.some.inj h)) (.slice (some ⟨g3, 0, none⟩) (m + 1) cap3)
    unfold OwnI
    simpa [HM.out] using this
  · intro h
    exact hnq (Option.some.inj h)
  · intro g hg hgq hgu
    rw [HM.out] at hgu
    refine ⟨?_, fun h => ?_⟩
    · rw [Below.heap_setCell _ _ _ g hgq, hgrow3.block g (by simp; omega) (fun e => hgu e.symm), Below.heap_alloc _ _ _ (by omega)]
      exact HK12.out g hg hgq
    · rw [own_some] at h
      rcases hat3 with h3 | h3
      · exact hgu (h3.trans h)
      · have := Option.some.inj h
        omega
  · refine Below.setCell (Below.grown (HB2.out.alloc (by omega) _) hgrow3 hsa ?_) (by exact hge) _
    intro k' hk'
    exact own_ge1 HOWN.out k' hk'

end Go.Proofs.YtpnjnedfcdppaaaGreatDoor
