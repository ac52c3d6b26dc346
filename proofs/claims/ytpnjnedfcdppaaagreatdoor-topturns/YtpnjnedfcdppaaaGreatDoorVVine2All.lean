/-
  Joined texts: YtpnjnedfcdppaaaGreatDoorVUp, YtpnjnedfcdppaaaGreatDoorVVine, YtpnjnedfcdppaaaGreatDoorVVine2.
-/
import Derived.Test.YtpnjnedfcdppaaaGreatDoorVLeaf
import Derived.Test.YtpnjnedfcdppaaaGreatDoorSOrdAll
import Derived.Deep.AppendLies
/-
  package vine: a tree in memory; comeUp.
-/
namespace Go.Proofs.YtpnjnedfcdppaaaGreatDoor
open Go.RowKit

theorem vcells_set {w : World} {g t : Nat} {cs : List Value} (h : w.heap[g]? = some (.cells cs.toArray t (0, 0))) (i : Nat) (v : Value) : (w.setCell ⟨g, i, none⟩ v).heap[g]? = some (.cells (cs.set i v).toArray t (0, 0)) := by
  rw [setCell_eq_setRow w g i _ t (0, 0) v h, setRow_heap w g _ _ t (0, 0) h]
  simp
theorem vown_of {w w' : World} {base e s n : Nat} {v : Value} {xs : List Value} (h : w.ownsRow base e s v n xs) (hk : ∀ g, v.ownBlock = some g → w'.heap[g]? = w.heap[g]?) : w'.ownsRow base e s v n xs := by
  refine ⟨h.1, ?_⟩
  rcases h.2 with h0 | ⟨g, cap, cur, rfl, h2, h3, h4⟩
  · exact .inl h0
  · exact .inr ⟨g, cap, cur, rfl, h2, (hk g rfl).trans h3, h4⟩
theorem vown_lt {w : World} {base e s n : Nat} {v : Value} {xs : List Value} (h : w.ownsRow base e s v n xs) : ∀ g, v.ownBlock = some g → g < w.heap.size := by
  intro g hg
  rcases h.2 with ⟨rfl, _⟩ | ⟨g', cap, cur, rfl, _, h3, _⟩
  · simp [Value.ownBlock] at hg
  · simp [Value.ownBlock] at hg
    subst hg
    exact (Array.getElem?_eq_some_iff.1 h3).1
theorem vown_far {w : World} {base e s n : Nat} {v : Value} {xs : List Value} (h : w.ownsRow base e s v n xs) {p : Addr} (hp : v.ownBlock ≠ some p.block) (u : Value) : (w.setCell p u).ownsRow base e s v n xs :=
  vown_of h fun g hg => Below.heap_setCell w p u g (fun e => hp (by rw [hg, e]))
theorem vps_grown {w w' : World} {n c : Nat} {A : Option Addr} {l : PL} {row : Option Nat} (h : PS w A n c l) (hg : w.grownBy w' row) (hne : ∀ ad, A = some ad → row ≠ some ad.block) : PS w' A n c l := by
  refine ⟨h.len, h.rd.1, fun hn => ?_⟩
  obtain ⟨b, off, e, hb, hc⟩ := h.rd.2 hn
  refine ⟨b, off, e, Nat.lt_of_lt_of_le hb hg.size, fun i hi j hj => ?_⟩
  rw [World.cell?_of_block (hg.block b hb (fun e' => hne _ e e'.symm))]
  exact hc i hi j hj

/-- the tree's own block -/
def VB (w : World) (q : Nat) (s u : Value) : Prop := w.heap[q]? = some (.cells #[s, u] 142 (0, 0))
theorem VB.lt {w : World} {q : Nat} {s u : Value} (h : VB w q s u) : q < w.heap.size := (Array.getElem?_eq_some_iff.1 h).1
theorem VB.cells {w : World} {q : Nat} {s u : Value} (h : VB w q s u) : w.cell? ⟨q, 0, none⟩ = some s ∧ w.cell? ⟨q, 1, none⟩ = some u := by
  have h' : w.heap[q]? = _ := h
  refine ⟨?_, ?_⟩ <;> simp [World.cell?, h']
theorem VB.frozen {w : World} {q : Nat} {s u : Value} (h : VB w q s u) (i : Nat) : w.frozen? ⟨q, i, none⟩ = false := by
  have h' : w.heap[q]? = _ := h
  simp [World.frozen?, h']
theorem VB.below {w w' : World} {q B : Nat} {s u : Value} (h : VB w q s u) (hb : Below B w w') (hB : q < B) : VB w' q s u := (hb.block q hB).trans h
theorem VB.set0 {w : World} {q : Nat} {s u : Value} (h : VB w q s u) (x : Value) : VB (w.setCell ⟨q, 0, none⟩ x) q x u := by
  have := vcells_set (cs := [s, u]) h 0 x
  simpa [VB] using this
theorem VB.set1 {w : World} {q : Nat} {s u : Value} (h : VB w q s u) (x : Value) : VB (w.setCell ⟨q, 1, none⟩ x) q s x := by
  have := vcells_set (cs := [s, u]) h 1 x
  simpa [VB] using this

/-- the tree in memory: its spots, and the keys that came up -/
structure VT (w : World) (base q : Nat) (A : Option Addr) (c : Nat) (u : Value) (L : PL) (U : List Int) : Prop where
  ge : base ≤ q
  blk : VB w q (.slice A L.length c) u
  ps : PS w A L.length c L
  far : 0 < L.length → ∀ ad, A = some ad → base ≤ ad.block ∧ ad.block ≠ q ∧ u.ownBlock ≠ some ad.block
  own : OwnI w base u U
  apt : u.ownBlock ≠ some q
theorem VT.new {w : World} {base : Nat} {A : Option Addr} {c : Nat} {u : Value} {L : PL} {U : List Int} (hbase : base ≤ w.heap.size) (hps : PS w A L.length c L) (hown : OwnI w base u U) (hf : 0 < L.length → ∀ ad, A = some ad → base ≤ ad.block ∧ u.ownBlock ≠ some ad.block) :
    VT (w.alloc (.cells #[.slice A L.length c, u] 142)) base w.heap.size A c u L U := by
  refine ⟨hbase, heap_alloc_new w _, hps.alloc _, fun h0 ad ha => ⟨(hf h0 ad ha).1, ?_, (hf h0 ad ha).2⟩, own_below hown ((Below.refl _ _).alloc (Nat.le_refl _) _), fun h => ?_⟩
  · obtain ⟨b, off, e, hb, _⟩ := hps.rd.2 h0
    rw [ha] at e
    cases e
    simp at hb ⊢
    omega
  · have := vown_lt hown _ h
    omega
theorem VT.below {w w' : World} {base q : Nat} {A : Option Addr} {c : Nat} {u : Value} {L : PL} {U : List Int} (h : VT w base q A c u L U) (hb : Below w.heap.size w w') : VT w' base q A c u L U :=
  ⟨h.ge, h.blk.below hb h.blk.lt, h.ps.below hb, h.far, own_below h.own hb, h.apt⟩
/-- each block but the tree's own, and that of its keys, is as it was -/
def Kp (w w' : World) (q : Nat) (u u' : Value) : Prop := ∀ g, g < w.heap.size → g ≠ q → u.ownBlock ≠ some g → w'.heap[g]? = w.heap[g]? ∧ u'.ownBlock ≠ some g
theorem Kp.trans {w w1 w2 : World} {q : Nat} {u u1 u2 : Value} (h : Kp w w1 q u u1) (h2 : Kp w1 w2 q u1 u2) (hz : w.heap.size ≤ w1.heap.size) : Kp w w2 q u u2 := fun g hg hq hu => by
  obtain ⟨a, b⟩ := h g hg hq hu
  obtain ⟨a2, b2⟩ := h2 g (by omega) hq b
  exact ⟨a2.trans a, b2⟩
theorem Kp.of_below {w w' : World} (hb : Below w.heap.size w w') (q : Nat) (u : Value) : Kp w w' q u u := fun g hg _ hu => ⟨hb.block g hg, hu⟩
def RetV (base q : Nat) (u : Value) (L : PL) (U : List Int) (w : World) (e : Ending) (w' : World) : Prop := e = .returned (.tuple #[]) ∧ (∃ A c u', VT w' base q A c u' L U ∧ Kp w w' q u u') ∧ Below base w w'


theorem own_some {g n c : Nat} : (Value.slice (some ⟨g, 0, none⟩) n c).ownBlock = some g := rfl

set_option maxRecDepth 100000 in
set_option maxHeartbeats 2000000 in
theorem comeUp_any (base q i : Nat) (A : Option Addr) (c : Nat) (u : Value) (L : PL) (U : List Int) (w : World) (h : VT w base q A c u L U) (hT : IsTree L) (hi : i < L.length) (hd : dp L i ≠ 0) (hU : U.length ≤ 10000) :
    Calls Tryz.prog 154 #[.pointer (some ⟨q, 0, none⟩), I i] w (RetV base q u (turnL L i) (U ++ [ky L i]) w) := by
  obtain ⟨n, hn⟩ : ∃ n, L.length = n := ⟨_, rfl⟩
  have hn2 : n ≤ 200 := by rw [← hn]; exact hT.1
  have hix : ixK L (ky L i) = i := ixK_hit hi rfl (fun x hx e => by have := up_lt hT.2.1 x i hx hi; omega)
  obtain ⟨j, _, htd⟩ := turned_of hT hi hd
  have HTL := Lib.hid (htd.len.trans hn)
  have hge := h.ge
  have hblk := h.blk
  have hps := h.ps
  have HFAR := Lib.hid h.far
  have HAPT := Lib.hid h.apt
  rw [hn] at hblk hps hi
  have HBLK := Lib.hid hblk
  have HPS := Lib.hid hps
  obtain ⟨hq0, hq1⟩ := hblk.cells
  have hlt := hblk.lt
  obtain ⟨b, off, rfl, hb, hc⟩ := hps.dat (by omega)
  obtain ⟨Au, cu, rfl, -, -⟩ := h.own.is_
  obtain ⟨m, hm⟩ : ∃ m, U.length = m := ⟨_, rfl⟩
  have HM := Lib.hid hm
  have hown0 : w.ownsRow base 3 1 (.slice Au U.length cu) U.length (U.map I) := h.own
  have HOWN := Lib.hid hown0
  rw [hm] at hq1 HOWN HFAR HAPT HBLK hU
  clear hm hown0
  have hc0 := (hc i hi).1
  obtain ⟨key, hkey⟩ : ∃ key, ky L i = key := ⟨_, rfl⟩
  rw [hkey] at hc0 hix ⊢
  have HTURN := Lib.hid (Turn_ok (some ⟨b, off, none⟩) n c i L key w hps hT hix hi hd)
  have HN := Lib.hid hn
  obtain ⟨i0, hi0, hz0, hz1, hz2⟩ := info_parts int_info
  have HI := Lib.hid hi0
  have HZ0 := Lib.hid hz0
  have HZ1 := Lib.hid hz1
  have HZ2 := Lib.hid hz2
  clear hi0 hz0 hz1 hz2 h hT hd hix htd hblk hps hc hn hkey
  go_enter Tryz.func154, Tryz.ntmps154
  go_wp2_with fail
  refine HTURN.out.mono ?_
  rintro e w1 ⟨A1, n1, c1, rfl, hps1, hb1, hf1⟩
  obtain rfl : n1 = n := by rw [← hps1.len, HTL.out]
  have hblk1 := HBLK.out.below hb1 hlt
  obtain ⟨hq10, hq11⟩ := hblk1.cells
  have hfz1 := hblk1.frozen 0
  have hlt1 := hblk1.lt
  have hown1 : w1.ownsRow base 3 1 (.slice Au m cu) m (U.map I) := own_below HOWN.out hb1
  -- the spots are stored
  have hblk2 := hblk1.set0 (.slice A1 n1 c1)
  have hps2 : PS (w1.setCell ⟨q, 0, none⟩ (.slice A1 n1 c1)) A1 n1 c1 (turnL L i) := hps1.far (p := ⟨q, 0, none⟩) (fun ad ha => by have := hf1 ad ha; show ad.block ≠ q; omega) _
  have hown2 : (w1.setCell ⟨q, 0, none⟩ (.slice A1 n1 c1)).ownsRow base 3 1 (.slice Au m cu) m (U.map I) := vown_far (p := ⟨q, 0, none⟩) hown1 HAPT.out _
  have hb2 : Below base w (w1.setCell ⟨q, 0, none⟩ (.slice A1 n1 c1)) := (hb1.mono (by omega)).setCell (B := base) (p := ⟨q, 0, none⟩) hge _
  have hsz2 : (w1.setCell ⟨q, 0, none⟩ (.slice A1 n1 c1)).heap.size = w1.heap.size := by simp [World.setCell]
  have HW2 : ∃ w2, Hid (w2 = w1.setCell ⟨q, 0, none⟩ (.slice A1 n1 c1)) := ⟨_, Lib.hid rfl⟩
  obtain ⟨w2, HW2⟩ := HW2
  have HK12 : Hid (∀ g, g < w.heap.size → g ≠ q → w2.heap[g]? = w.heap[g]?) := fun g hg hq => by
    rw [HW2.out, Below.heap_setCell _ _ _ g hq]
    exact hb1.block g hg
  have hz2 : w.heap.size ≤ w2.heap.size := by rw [HW2.out, hsz2]; exact hb1.size
  have hf2 : ∀ ad, A1 = some ad → w.heap.size ≤ ad.block := hf1
  have HF2 := Lib.hid hf2
  rw [← HW2.out] at hblk2 hps2 hown2 hb2
  have HBLK2 := Lib.hid hblk2
  have HPS2 := Lib.hid hps2
  have HOWN2 := Lib.hid hown2
  have HB2 := Lib.hid hb2
  clear hb1 hf1 hps1 hblk1 hown1 hblk2 hps2 hown2 hb2 hf2 hsz2
  have HOLT := Lib.hid (vown_lt HOWN.out)
  have hlt2 := HBLK2.out.lt
  have hz12 : w2.heap.size = w1.heap.size := by rw [HW2.out]; simp [World.setCell]
  have HNEW : Hid (∀ j u, [I key][j]? = some u → (w2.alloc (.cells #[I key] 3)).cell? ((⟨w1.heap.size, 0, none⟩ : Addr).add j) = some u) := by
    have := cell_one_new w2 (I key) 3
    rw [hz12] at this
    simpa [Hid] using this
  have hsa : base ≤ (w2.alloc (.cells #[I key] 3)).heap.size := by simp; omega
  go_wp2_with (first
    | (at_builtin
       rw [← HW2.out]
       refine wpList_append_lies _ rfl (.tmp 29) (.tmp 31) 46 rfl base 3 i0 _ 1 8 Tryz.underlying46 HI.out HZ0.out HZ1.out HZ2.out rfl (by omega) (.slice Au m cu) m (U.map I) rfl (own_below HOWN2.out ((Below.refl _ _).alloc (Nat.le_refl _) _)) ⟨w1.heap.size, 0, none⟩ 1 1 [I key] rfl rfl HNEW.out (one_I key) (by omega) (by unfold maxLen; omega) (by omega) hsa (w2.heap.size + 1) (by simp) ?_
       intro g3 cap3 w3 hown3 hgrow3 hat3 hlt3
       have hblk3 : VB w3 q (.slice A1 n1 c1) (.slice Au m cu) := by
         show w3.heap[q]? = _
         rw [hgrow3.block q (by simp; omega) (fun e => HAPT.out e.symm), Below.heap_alloc _ _ _ hlt2]
         exact HBLK2.out
       obtain ⟨hq30, hq31⟩ := hblk3.cells
       have hfz3 := hblk3.frozen 1
       have hlq3 := hblk3.lt
       have HBLK3 := Lib.hid hblk3
       clear hblk3)
    | fail)
  go_end0
  have hnq : g3 ≠ q := fun e => by
    rcases hat3 with h | h
    · exact HAPT.out (by rw [h, e])
    · omega
  refine ⟨rfl, ⟨A1, c1, .slice (some ⟨g3, 0, none⟩) (m + 1) cap3, ⟨hge, ?_, ?_, ?_, ?_, ?_⟩, ?_⟩, ?_⟩
  · rw [HTL.out]
    exact HBLK3.out.set1 _
  · rw [HTL.out]
    refine PS.far (p := ⟨q, 1, none⟩) ?_ (fun ad ha => by have := HF2.out ad ha; show ad.block ≠ q; omega) _
    refine vps_grown (HPS2.out.alloc _) hgrow3 (fun ad ha h => ?_)
    have h1 := HF2.out ad ha
    have h2 := HOLT.out _ h
    omega
  · intro _ ad ha
    have h1 := HF2.out ad ha
    refine ⟨by omega, by omega, fun h => ?_⟩
    rw [own_some] at h
    rcases hat3 with h3 | h3
    · have := HOLT.out _ (h3.trans h)
      omega
    · have h4 := Option.some.inj h
      have h5 := HPS2.out.rd.2 (by omega)
      obtain ⟨b', off', e', hb', _⟩ := h5
      rw [ha] at e'
      cases e'
      simp at h4 hb'
      omega
  · have := vown_far (p := ⟨q, 1, none⟩) hown3 (fun h => hnq (Option.some.inj h)) (.slice (some ⟨g3, 0, none⟩) (m + 1) cap3)
    unfold OwnI
    simpa [HM.out] using this
  · intro h
    exact hnq (Option.some.inj h)
  · intro g hg hgq hgu
    rw [HM.out] at hgu
    refine ⟨?_, fun h => ?_⟩
    · rw [Below.heap_setCell _ _ _ g hgq, hgrow3.block g (by simp; omega) (fun e => hgu e.symm), Below.heap_alloc _ _ _ (by omega)]
      exact HK12.out g hg hgq
    · rw [own_some] at h
      rcases hat3 with h3 | h3
      · exact hgu (h3.trans h)
      · have := Option.some.inj h
        omega
  · refine Below.setCell (Below.grown (HB2.out.alloc (by omega) _) hgrow3 hsa ?_) (by exact hge) _
    intro k' hk'
    exact own_ge1 HOWN.out k' hk'

end Go.Proofs.YtpnjnedfcdppaaaGreatDoor

/-
  package vine: vineOf, Vine.
-/
namespace Go.Proofs.YtpnjnedfcdppaaaGreatDoor
open Go.RowKit

/-- what is left to be done of a tree t: ahead of the rest s is a vine -/
structure VI (t : Tr) (L : PL) (U : List Int) (r : Nat) (s : Tr) (pre : PL) : Prop where
  tree : IsTree L
  eq : L = pre ++ s.sp r
  len : pre.length = r
  ctx : Ctx 0 r pre []
  into : pre ++ (vnT s.ks).sp r = (vnT t.ks).sp 0
  ups : vks t = U ++ vks s
theorem VI.first {t : Tr} (h : IsTree (t.sp 0)) : VI t (t.sp 0) [] 0 t [] := ⟨h, by simp, rfl, .hole, by simp, rfl⟩
theorem VI.right {t : Tr} {L : PL} {U : List Int} {r : Nat} {k : Int} {b : Tr} {pre : PL} (h : VI t L U r (.node .nil k b) pre) : VI t L U (r + 1) b (pre ++ [(k, (r : Int))]) := by
  refine ⟨h.tree, by rw [h.eq]; simp [Tr.sp], by simp [h.len], ?_, ?_, by rw [h.ups, vks_right]⟩
  · have := Ctx.right .nil k h.ctx
    simp only [Tr.sp, List.append_nil] at this
    exact this
  · rw [← h.into]
    simp [Tr.ks, vnT, Tr.sp]
theorem VI.turn {t : Tr} {L : PL} {U : List Int} {r : Nat} {a b c : Tr} {k p : Int} {pre : PL} (h : VI t L U r (.node (.node a k b) p c) pre) :
    dp L (r + a.size) ≠ 0 ∧ ky L (r + a.size) = k ∧ VI t (turnL L (r + a.size)) (U ++ [k]) r (.node a k (.node b p c)) pre := by
  have hl : LL L (r + a.size) (r + (a.size + 1 + b.size)) r a k b p c pre [] := ⟨h.ctx, by rw [h.eq]; simp, by rw [h.len], by rw [h.len]⟩
  have hroot := hl.at_i.root
  have hlen := hl.at_i.len
  have hd : dp L (r + a.size) ≠ 0 := by rw [hroot.1]; omega
  have hlt : r + a.size < L.length := by rw [hlen, h.len]; simp; omega
  obtain ⟨_, _, htd⟩ := turned_of h.tree hlt hd
  have ht := hl.turn
  rw [List.append_nil] at ht
  refine ⟨hd, hroot.2, htd.tree, ht, h.len, h.ctx, ?_, ?_⟩
  · rw [← h.into]
    congr 3
    simp [Tr.ks]
  · rw [h.ups, vks_turn]
    simp
theorem VI.len_all {t : Tr} {L : PL} {U : List Int} {r : Nat} {s : Tr} {pre : PL} (h : VI t L U r s pre) : r + s.size = L.length := by rw [h.eq]; simp [sp_length, h.len]
theorem VI.last {t : Tr} {L : PL} {U : List Int} {r : Nat} {pre : PL} (h : VI t L U r .nil pre) : L = (vnT t.ks).sp 0 ∧ U = vks t := by
  have h1 := h.into
  have h2 := h.eq
  have h3 := h.ups
  simp [Tr.ks, vnT, Tr.sp, vks] at h1 h2 h3
  exact ⟨by rw [h2, h1], h3.symm⟩
theorem VI.top {t : Tr} {L : PL} {U : List Int} {r : Nat} {a b : Tr} {k : Int} {pre : PL} (h : VI t L U r (.node a k b) pre) : TopFr L r L.length (r + a.size) := by
  have := topFr_sp pre [] a b k r
  rw [List.append_nil, ← h.eq, h.len, h.len_all] at this
  exact this
theorem VI.left {t : Tr} {L : PL} {U : List Int} {r : Nat} {a b c : Tr} {k p : Int} {pre : PL} (h : VI t L U r (.node (.node a k b) p c) pre) : TopFr (L.take (r + (a.size + 1 + b.size))) r (r + (a.size + 1 + b.size)) (r + a.size) := by
  have := topFr_sp pre [] a b k (r + 1)
  have e : L.take (r + (a.size + 1 + b.size)) = pre ++ (Tr.node a k b).sp (r + 1) ++ [] := by
    rw [h.eq, List.append_nil, show (Tr.node (.node a k b) p c).sp r = (Tr.node a k b).sp (r + 1) ++ ((p, (r : Int)) :: c.sp (r + 1)) from rfl, ← List.append_assoc, List.take_left']
    simp [sp_length, h.len, Tr.size]
  rw [e, h.len] at *
  exact this
theorem vks_bd {t : Tr} {U V : List Int} (h : vks t = U ++ V) : U.length ≤ t.size := by
  have := vks_le t
  rw [h] at this
  simp at this
  omega

/-- what vineOf answers -/
def RetVO (L : PL) (U : List Int) (w : World) (e : Ending) (w' : World) : Prop :=
  ∃ A c u, e = .returned (.tuple #[.agg #[.slice A L.length c, u], I 0]) ∧ PS w' A L.length c L ∧ OwnI w' w.heap.size u U ∧ Below w.heap.size w w' ∧ (0 < L.length → ∀ ad, A = some ad → w.heap.size ≤ ad.block ∧ u.ownBlock ≠ some ad.block)

theorem tree_struct : ∃ d, Tryz.prog.underlying 142 = some (.struct d) := ⟨_, Tryz.underlying142⟩
theorem tree_size : (Tryz.prog.info? 142).map (·.size) = some 2 := by kernel_rfl

set_option maxRecDepth 100000 in
set_option maxHeartbeats 2000000 in
theorem vineOf_ok (A : Option Addr) (n c : Nat) (t : Tr) (w : World) (h : PS w A n c (t.sp 0)) (hT : IsTree (t.sp 0)) :
    Calls Tryz.prog 79 #[.slice A n c] w (RetVO ((vnT t.ks).sp 0) (vks t) w) := by
  have hn : n ≤ 200 := by rw [← h.len]; exact hT.1
  have hsz : t.size = n := by rw [← sp_length t 0, h.len]
  have HSZ := Lib.hid hsz
  have H := Lib.hid h
  have HT := Lib.hid hT
  have HC := Lib.hid (chkS_zero.2 hT)
  clear h hT hsz
  go_enter Tryz.func79, Tryz.ntmps79
  go_wp2_with fail
  refine (CheckS_is A n c (t.sp 0) _ (H.out.alloc _) (by omega) 0 HC.out).mono ?_
  rintro e w1 ⟨rfl, hb1⟩
  have HB1 := Lib.hid hb1
  clear hb1
  go_wp2_with fail
  refine (clone_any A n c (t.sp 0) _ (H.out.below (below_box HB1.out)) (by omega)).mono ?_
  rintro e w2 ⟨v, rfl, hown, hb2⟩
  obtain ⟨A2, c2, rfl, hps2, hf2⟩ := hown.ps
  rw [sp_length, HSZ.out] at hps2 ⊢
  have HPS2 := Lib.hid hps2
  have HB2 := Lib.hid hb2
  clear hown hps2 hb2
  have HRES : Hid (w2.heap[w.heap.size]? = some (.cells #[.slice none 0 0, .slice none 0 0] 142 (0, 0)) ∧ Below (w.heap.size + 1) (w.alloc (.cells #[.slice none 0 0, .slice none 0 0] 142)) w2) := by
    have hb := HB1.out.trans (HB2.out.mono HB1.out.size)
    rw [World.size_alloc] at hb
    exact ⟨(hb.block _ (by omega)).trans (heap_alloc_new w _), hb⟩
  have hz2 : w.heap.size + 1 ≤ w2.heap.size := by have := HRES.out.2.size; rw [World.size_alloc] at this; exact this
  have HV0 : Hid (VT (w2.alloc (.cells #[.slice A2 n c2, .slice none 0 0] 142)) (w.heap.size + 1) w2.heap.size A2 c2 (.slice none 0 0) (t.sp 0) []) := by
    have := VT.new (w := w2) (base := w.heap.size + 1) (A := A2) (c := c2) (u := .slice none 0 0) (L := t.sp 0) (U := []) hz2 (by rw [sp_length, HSZ.out]; exact HPS2.out) (World.ownsRow_nil _ _ _ _) (fun _ ad ha => ⟨by have := hf2 ad ha; have := HB1.out.size; rw [World.size_alloc] at this; omega, by simp [Value.ownBlock]⟩)
    rw [sp_length, HSZ.out] at this
    exact this
  clear hf2
  go_wp2
  go_loopg [6] (2 * n) (fun m i wr => ∃ (r : Nat) (s : Tr) (pre L : PL) (U : List Int) (A' : Option Addr) (c' : Nat) (u : Value), i = .int .i64 r ∧ 2 * s.size - s.rsp ≤ m ∧ L.length = n ∧ VI t L U r s pre ∧ VT wr (w.heap.size + 1) w2.heap.size A' c' u L U ∧ Below (w.heap.size + 1) w2 wr)
  case atStart => exact ⟨0, t, [], t.sp 0, [], A2, c2, _, rfl, by have := HSZ.out; omega, by rw [sp_length, HSZ.out], VI.first HT.out, HV0.out, (Below.refl _ _).alloc hz2 _⟩
  case round =>
    obtain ⟨r, s, pre, L, U, A', c', u, rfl, hm, hL, hvi, hvt, hb⟩ := hrel
    obtain ⟨Au, cu, rfl, -, -⟩ := hvt.own.is_
    obtain ⟨mu, hmu⟩ : ∃ mu, U.length = mu := ⟨_, rfl⟩
    rw [hmu] at hvt
    have HMU := Lib.hid hmu
    have HVI := Lib.hid hvi
    have HVT := Lib.hid hvt
    have HB := Lib.hid hb
    have hU := vks_bd hvi.ups
    rw [HSZ.out] at hU
    have HM := Lib.hid hm
    have hrs := hvi.len_all
    rw [hL] at hrs
    have HL := Lib.hid hL
    have hblk := hvt.blk
    rw [hL] at hblk
    have HBLK := Lib.hid hblk
    obtain ⟨hq0, hq1⟩ := hblk.cells
    have hlq := hblk.lt
    have hps := hvt.ps
    rw [hL] at hps
    have HPS := Lib.hid hps
    have hzr := hb.size
    clear hvi hvt hb hm hL hblk hps
    cases s with
    | nil =>
      have hrn : ¬ r < n := by simp only [Tr.size] at hrs; omega
      obtain ⟨hl1, hl2⟩ := HVI.out.last
      subst hl1 hl2
      have hres : wr.heap[w.heap.size]? = some (.cells #[.slice none 0 0, .slice none 0 0] 142 (0, 0)) := (HB.out.block _ (by omega)).trans HRES.out.1
      have hr0 : wr.cell? ⟨w.heap.size, 0, none⟩ = some (.slice none 0 0) := by simp [World.cell?, hres]
      have hr1 : wr.cell? ⟨w.heap.size, 1, none⟩ = some (.slice none 0 0) := by simp [World.cell?, hres]
      have hf0 : wr.frozen? ⟨w.heap.size, 0, none⟩ = false := by simp [World.frozen?, hres]
      have hf1 : wr.frozen? ⟨w.heap.size, 1, none⟩ = false := by simp [World.frozen?, hres]
      have HR := Lib.hid hres
      clear hres hrs
      have hfar := HVT.out.far
      have HOWN := Lib.hid HVT.out.own
      clear hmu
      go_wp2
      have hset : ((wr.setCell ⟨w.heap.size, 0, none⟩ (.slice A' n c')).setCell ⟨w.heap.size, 1, none⟩ (.slice Au mu cu)).heap[w.heap.size]? = some (.cells #[.slice A' n c', .slice Au mu cu] 142 (0, 0)) := by
        have h1 := vcells_set (cs := [.slice none 0 0, .slice none 0 0]) HR.out 0 (.slice A' n c')
        have h2 := vcells_set (cs := [.slice A' n c', .slice none 0 0]) h1 1 (.slice Au mu cu)
        exact h2
      have hbl : Below w.heap.size w ((wr.setCell ⟨w.heap.size, 0, none⟩ (.slice A' n c')).setCell ⟨w.heap.size, 1, none⟩ (.slice Au mu cu)) := by
        have h1 : Below w.heap.size w wr := (((Below.refl _ _).alloc (Nat.le_refl _) _).trans (HRES.out.2.mono (by omega))).trans (HB.out.mono (by omega))
        exact (h1.setCell (B := w.heap.size) (p := ⟨w.heap.size, 0, none⟩) (Nat.le_refl _) _).setCell (B := w.heap.size) (p := ⟨w.heap.size, 1, none⟩) (Nat.le_refl _) _
      have hown2 : OwnI ((wr.setCell ⟨w.heap.size, 0, none⟩ (.slice A' n c')).setCell ⟨w.heap.size, 1, none⟩ (.slice Au mu cu)) w.heap.size (.slice Au mu cu) (vks t) := by
        have hne : (Value.slice Au mu cu).ownBlock ≠ some w.heap.size := fun h => by have := own_ge1 HOWN.out _ h; omega
        exact own_mono1 (vown_far (p := ⟨w.heap.size, 1, none⟩) (vown_far (p := ⟨w.heap.size, 0, none⟩) HOWN.out hne _) hne _) (by omega)
      have hps2 : PS ((wr.setCell ⟨w.heap.size, 0, none⟩ (.slice A' n c')).setCell ⟨w.heap.size, 1, none⟩ (.slice Au mu cu)) A' n c' ((vnT t.ks).sp 0) := by
        rcases Nat.eq_zero_or_pos n with h0 | h0
        · exact ⟨HPS.out.len, HPS.out.rd.1, fun h => by omega⟩
        · have hne : ∀ ad, A' = some ad → ad.block ≠ w.heap.size := fun ad ha => by have := (hfar (by rw [HL.out]; exact h0) ad ha).1; omega
          exact (HPS.out.far (p := ⟨w.heap.size, 0, none⟩) hne _).far (p := ⟨w.heap.size, 1, none⟩) hne _
      generalize (wr.setCell ⟨w.heap.size, 0, none⟩ (.slice A' n c')).setCell ⟨w.heap.size, 1, none⟩ (.slice Au mu cu) = wf at *
      refine bodyPost_ret (v := .tuple #[.agg #[.slice A' n c', .slice Au mu cu], I 0]) ?_ rfl ?_
      · obtain ⟨d, hd⟩ := tree_struct
        have := run_loadVar_row (P := Tryz.prog) wf w.heap.size 142 142 #[.slice A' n c', .slice Au mu cu] (0, 0) _ hset hd rfl tree_size
        simp [results, Tryz.results79, asAddr, this]
      · exact ⟨A', c', _, by rw [HL.out], by rw [HL.out]; exact hps2, hown2, hbl, fun h0 ad ha => ⟨by have := (hfar h0 ad ha).1; omega, (hfar h0 ad ha).2.2⟩⟩
    | node a k b =>
      have hsn : (Tr.node a k b).size = a.size + 1 + b.size := rfl
      have hrn : r < n := by omega
      obtain ⟨p, hp⟩ : ∃ p, r + a.size = p := ⟨_, rfl⟩
      have hpn : p < n := by omega
      have HTF := Lib.hid HVI.out.top
      rw [HL.out, hp] at HTF
      clear hmu
      cases a with
      | nil =>
        obtain rfl : p = r := by simp only [Tr.size] at hp; omega
        have HV2 := Lib.hid HVI.out.right
        clear hp hsn hrs
        go_wp2_with fail
        refine (topFrom_any A' n c' p p L wr HPS.out (by omega) hrn hpn HTF.out).mono ?_
        rintro e w3 ⟨rfl, hb3⟩
        have HT3 := Lib.hid (HVT.out.below hb3)
        have HB3 := Lib.hid (HB.out.trans (hb3.mono (by omega)))
        clear hb3
        have hpp : ((p : Int) == (p : Int)) = true := by simp
        have hpw : IntKind.i64.wrap ((p : Int) + 1) = p + 1 := IntWalk.i64_in _ (by omega)
        go_wp2
        go_roundg (2 * b.size - b.rsp)
        case measure => have h1 := HM.out; have h2 := rsp_le b; simp only [Tr.size, Tr.rsp] at h1; omega
        case rel => exact ⟨p + 1, b, _, L, U, A', c', _, by go_num, Nat.le_refl _, HL.out, HV2.out, HT3.out, HB3.out⟩
      | node x y z =>
        have hxn : (Tr.node x y z).size = x.size + 1 + z.size := rfl
        obtain ⟨g, hg⟩ : ∃ g, r + x.size = g := ⟨_, rfl⟩
        obtain ⟨hd, hky, hvi2⟩ := HVI.out.turn
        have HTF2 := Lib.hid HVI.out.left
        rw [show r + (x.size + 1 + z.size) = p by omega, hg] at HTF2
        rw [hg] at hd hky hvi2
        have HD := Lib.hid hd
        have HKY := Lib.hid hky
        have HV2 := Lib.hid hvi2
        have hgp : g < p := by omega
        have hrp : r < p := by omega
        have hne : ((p : Int) == (r : Int)) = false := by simp; omega
        have hne2 : ¬ p = r := by omega
        have htl := (turned_of HVI.out.tree (by rw [HL.out]; omega : g < L.length) hd)
        obtain ⟨_, _, htd⟩ := htl
        have HTL := Lib.hid (htd.len.trans HL.out)
        have hcap : n ≤ c' := HPS.out.rd.1
        clear hd hky hvi2 hsn hxn hrs hp hg htd
        go_wp2_with fail
        refine (topFrom_any A' n c' r p L wr HPS.out (by omega) hrn hpn HTF.out).mono ?_
        rintro e w3 ⟨rfl, hb3⟩
        have HT3 := Lib.hid (HVT.out.below hb3)
        have HB3 := Lib.hid (HB.out.trans (hb3.mono (by omega)))
        have HPS3 := Lib.hid (HPS.out.below hb3)
        have hq03 : w3.cell? ⟨w2.heap.size, 0, none⟩ = some (.slice A' n c') := (hb3.cell (by exact hlq)).trans hq0
        have hlq3 : w2.heap.size < w3.heap.size := Nat.lt_of_lt_of_le hlq hb3.size
        clear hb3 hq0 hq1
        go_wp2_with fail
        refine (topFrom_any A' p c' r g (L.take p) w3 (HPS3.out.take p (by omega)) (by omega) hrp hgp HTF2.out).mono ?_
        rintro e w4 ⟨rfl, hb4⟩
        have HT4 := Lib.hid (HT3.out.below hb4)
        have hz4 := hb4.size
        have HB4 := Lib.hid (HB3.out.trans (hb4.mono (by have := HB3.out.size; omega)))
        clear hb4 hq03
        go_wp2_with fail
        refine (comeUp_any (w.heap.size + 1) w2.heap.size g A' c' _ L U w4 HT4.out HVI.out.tree (by rw [HL.out]; omega) HD.out (by omega)).mono ?_
        rw [HKY.out]
        rintro e w5 ⟨rfl, ⟨A5, c5, u5, hvt5, -⟩, hb5⟩
        have HT5 := Lib.hid hvt5
        have HB5 := Lib.hid (HB4.out.trans hb5)
        clear hvt5 hb5
        go_wp2
        go_roundg (2 * (Tr.node x y (.node z k b)).size - (Tr.node x y (.node z k b)).rsp)
        case measure => have h1 := HM.out; have h2 := rsp_le b; simp only [Tr.size, Tr.rsp] at h1 ⊢; omega
        case rel => exact ⟨r, _, _, turnL L g, U ++ [y], A5, c5, u5, rfl, Nat.le_refl _, HTL.out, HV2.out, HT5.out, HB5.out⟩

end Go.Proofs.YtpnjnedfcdppaaaGreatDoor

/-
  package vine: vineOf at what is no tree; Vine.
-/
namespace Go.Proofs.YtpnjnedfcdppaaaGreatDoor
open Go.RowKit

set_option maxRecDepth 100000 in
set_option maxHeartbeats 2000000 in
theorem vineOf_bad (A : Option Addr) (n c : Nat) (l : PL) (w : World) (h : PS w A n c l) (hn : n ≤ 9223372036854775807) (E : Int) (hE : chkS l = E) (hE0 : E ≠ 0) :
    Calls Tryz.prog 79 #[.slice A n c] w fun e w' => e = .returned (.tuple #[.agg #[.slice none 0 0, .slice none 0 0], I E]) ∧ Below w.heap.size w w' := by
  have H := Lib.hid h
  have hq : (E != 0) = true := by simpa using hE0
  have HE := Lib.hid hE
  clear h hE hE0
  go_enter Tryz.func79, Tryz.ntmps79
  go_wp2_with fail
  refine (CheckS_is A n c l _ (H.out.alloc _) hn E HE.out).mono ?_
  rintro e w1 ⟨rfl, hb1⟩
  have hz := hb1.size
  rw [World.size_alloc] at hz
  have hres : w1.heap[w.heap.size]? = some (.cells #[.slice none 0 0, .slice none 0 0] 142 (0, 0)) := (hb1.block _ (by rw [World.size_alloc]; omega)).trans (heap_alloc_new w _)
  have hr0 : w1.cell? ⟨w.heap.size, 0, none⟩ = some (.slice none 0 0) := by simp [World.cell?, hres]
  have hr1 : w1.cell? ⟨w.heap.size, 1, none⟩ = some (.slice none 0 0) := by simp [World.cell?, hres]
  have hf0 : w1.frozen? ⟨w.heap.size, 0, none⟩ = false := by simp [World.frozen?, hres]
  have hf1 : w1.frozen? ⟨w.heap.size, 1, none⟩ = false := by simp [World.frozen?, hres]
  have HR := Lib.hid hres
  have HB1 := Lib.hid (below_box hb1)
  clear hb1 hres
  go_wp2
  have hset : ((w1.setCell ⟨w.heap.size, 0, none⟩ (.slice none 0 0)).setCell ⟨w.heap.size, 1, none⟩ (.slice none 0 0)).heap[w.heap.size]? = some (.cells #[.slice none 0 0, .slice none 0 0] 142 (0, 0)) := by
    have h1 := vcells_set (cs := [.slice none 0 0, .slice none 0 0]) HR.out 0 (.slice none 0 0)
    have h2 := vcells_set (cs := [.slice none 0 0, .slice none 0 0]) h1 1 (.slice none 0 0)
    exact h2
  have hbl : Below w.heap.size w ((w1.setCell ⟨w.heap.size, 0, none⟩ (.slice none 0 0)).setCell ⟨w.heap.size, 1, none⟩ (.slice none 0 0)) :=
    (HB1.out.setCell (B := w.heap.size) (p := ⟨w.heap.size, 0, none⟩) (Nat.le_refl _) _).setCell (B := w.heap.size) (p := ⟨w.heap.size, 1, none⟩) (Nat.le_refl _) _
  generalize (w1.setCell ⟨w.heap.size, 0, none⟩ (.slice none 0 0)).setCell ⟨w.heap.size, 1, none⟩ (.slice none 0 0) = wf at *
  refine bodyPost_ret (v := .tuple #[.agg #[.slice none 0 0, .slice none 0 0], I E]) ?_ rfl ?_
  · obtain ⟨d, hd⟩ := tree_struct
    have := run_loadVar_row (P := Tryz.prog) wf w.heap.size 142 142 #[.slice none 0 0, .slice none 0 0] (0, 0) _ hset hd rfl tree_size
    simp [results, Tryz.results79, asAddr, this]
  · exact ⟨rfl, hbl⟩

set_option maxRecDepth 100000 in
set_option maxHeartbeats 2000000 in
theorem Vine_bad (A : Option Addr) (n c : Nat) (l : PL) (w : World) (h : PS w A n c l) (hn : n ≤ 9223372036854775807) (E : Int) (hE : chkS l = E) (hE0 : E ≠ 0) :
    Calls Tryz.prog 39 #[.slice A n c] w fun e w' => e = .returned (.tuple #[.slice none 0 0, I E]) ∧ Below w.heap.size w w' := by
  have HV := Lib.hid (vineOf_bad A n c l w h hn E hE hE0)
  have hq : (E != 0) = true := by simpa using hE0
  clear h hE hE0
  go_enter Tryz.func39, Tryz.ntmps39
  go_wp2_with fail
  refine HV.out.mono ?_
  rintro e w1 ⟨rfl, hb1⟩
  have HB1 := Lib.hid hb1
  have hz := hb1.size
  clear hb1
  go_wp2
  go_ret2
  exact ⟨rfl, HB1.out.alloc hz _⟩

/-- a list of keys, and no error -/
def RetK (L : List Int) (w : World) (e : Ending) (w' : World) : Prop := ∃ A c, e = .returned (.tuple #[.slice A L.length c, I 0]) ∧ IS w' A L.length c L ∧ Below w.heap.size w w'

set_option maxRecDepth 100000 in
set_option maxHeartbeats 2000000 in
theorem Vine_ok (A : Option Addr) (n c : Nat) (t : Tr) (w : World) (h : PS w A n c (t.sp 0)) (hT : IsTree (t.sp 0)) :
    Calls Tryz.prog 39 #[.slice A n c] w (RetK (vks t) w) := by
  have HV := Lib.hid (vineOf_ok A n c t w h hT)
  clear h hT
  go_enter Tryz.func39, Tryz.ntmps39
  go_wp2_with fail
  refine HV.out.mono ?_
  rintro e w1 ⟨A1, c1, u1, rfl, hps1, hown1, hb1, -⟩
  obtain ⟨Au, cu, rfl, his, -⟩ := hown1.is_
  obtain ⟨m, hm⟩ : ∃ m, (vks t).length = m := ⟨_, rfl⟩
  obtain ⟨m1, hm1⟩ : ∃ m, ((vnT t.ks).sp 0).length = m := ⟨_, rfl⟩
  rw [hm] at his ⊢
  rw [hm1]
  have HI := Lib.hid his
  have HB1 := Lib.hid hb1
  have hz := hb1.size
  have HM := Lib.hid hm
  clear hb1 his hps1 hown1 hm hm1
  go_wp2
  go_ret2
  exact ⟨Au, cu, by rw [HM.out]; rfl, by rw [HM.out]; exact HI.out.alloc _, HB1.out.alloc hz _⟩

end Go.Proofs.YtpnjnedfcdppaaaGreatDoor
