/-
  The desk in memory.
-/
import Derived.Test.YtpnjnedfcdppaaaGreatDoorDOp
import Derived.Deep.DeepCutAuto
import Derived.Deep.RegionWith
import Derived.Deep.RegionLaw
import Derived.Lib.BufferKept
namespace Go.Proofs.YtpnjnedfcdppaaaGreatDoor
open Go.RowKit

def DB (w : World) (kb : Nat) (l : PL) (ops : List OP) : Prop :=
  ∃ pA pn pc ov, w.heap[kb]? = some (.cells #[.slice pA pn pc, ov] 87 (0, 0)) ∧ T.PT w pA pn pc l ∧ (∀ ad, pA = some ad → kb < ad.block) ∧ OwnO w (kb + 1) ov ops
structure KpB (kb : Nat) (w w' : World) : Prop where
  bel : Below kb w w'
  oth : Lib.OthersKept 69 (some kb) w w'
theorem KpB.of {kb : Nat} {w w' : World} (h : Below w.heap.size w w') (hk : kb < w.heap.size) : KpB kb w w' := ⟨h.mono (by omega), Lib.OthersKept.below (Lib.OthersKept.refl _ _ _) h⟩
theorem KpB.trans {kb : Nat} {a b c : World} (h : KpB kb a b) (k : KpB kb b c) : KpB kb a c := ⟨h.bel.trans k.bel, h.oth.trans k.oth⟩
theorem own_keep {w w' : World} {base e s n : Nat} {v : Value} {xs : List Value} (h : w.ownsRow base e s v n xs) (hb : ∀ g, v.ownBlock = some g → w'.heap[g]? = w.heap[g]?) : w'.ownsRow base e s v n xs := by
  refine ⟨h.1, ?_⟩
  rcases h.2 with h0 | ⟨g, cap, cur, h1, h2, h3, h4⟩
  · exact .inl h0
  · refine .inr ⟨g, cap, cur, h1, h2, ?_, h4⟩
    rw [hb g (by rw [h1]; rfl)]
    exact h3
theorem own_row {w : World} {base e s n : Nat} {v : Value} {xs : List Value} (h : w.ownsRow base e s v n xs) : ∀ g, v.ownBlock = some g → ∃ c fz, w.heap[g]? = some (.cells c e fz) := by
  intro g hg
  rcases h.2 with ⟨rfl, _⟩ | ⟨g', cap, cur, rfl, hb, hc, _⟩
  · simp [Value.ownBlock] at hg
  · simp [Value.ownBlock] at hg
    subst hg
    exact ⟨cur, (0, 0), hc⟩
theorem pt_keep {w w' : World} {n c : Nat} {A : Option Addr} {l : PL} (h : T.PT w A n c l) (hs : w.heap.size ≤ w'.heap.size) (hb : ∀ ad, A = some ad → w'.heap[ad.block]? = w.heap[ad.block]?) : T.PT w' A n c l := by
  refine ⟨⟨h.ps.len, h.ps.rd.1, fun hn => ?_⟩, fun ad e => ?_⟩
  · obtain ⟨b, off, e, hlt, hc⟩ := h.ps.rd.2 hn
    exact ⟨b, off, e, by omega, fun i hi j hj => (World.cell?_of_block (a := ⟨b, off + (i * 2 + j), none⟩) (hb ⟨b, off, none⟩ e)).trans (hc i hi j hj)⟩
  · obtain ⟨cs, fz, hc⟩ := h.ty ad e
    exact ⟨cs, fz, (hb ad e).trans hc⟩
theorem set_at {w : World} {g i : Nat} {C : Array Value} {t : Nat} {v : Value} (h : w.heap[g]? = some (.cells C t (0, 0))) : (w.setCell ⟨g, i, none⟩ v).heap[g]? = some (.cells (C.setIfInBounds i v) t (0, 0)) := by
  rw [setCell_eq_setRow w g i _ t (0, 0) v h, setRow_heap w g _ _ t (0, 0) h]
theorem DB.lt {w : World} {kb : Nat} {l : PL} {ops : List OP} (h : DB w kb l ops) : kb < w.heap.size := by
  obtain ⟨_, _, _, _, h, _⟩ := h
  exact (Array.getElem?_eq_some_iff.1 h).1
theorem pt_below {w w' : World} {n c : Nat} {A : Option Addr} {l : PL} (h : T.PT w A n c l) (hb : Below w.heap.size w w') : T.PT w' A n c l :=
  ⟨h.ps.below hb, fun ad e => by
    obtain ⟨cs, fz, hc⟩ := h.ty ad e
    exact ⟨cs, fz, (hb.block _ (Array.getElem?_eq_some_iff.1 hc).1).trans hc⟩⟩
theorem DB.below {w w' : World} {kb : Nat} {l : PL} {ops : List OP} (h : DB w kb l ops) (hb : Below w.heap.size w w') : DB w' kb l ops := by
  have hlt := h.lt
  obtain ⟨pA, pn, pc, ov, h1, h2, h3, h4⟩ := h
  exact ⟨pA, pn, pc, ov, (hb.block _ hlt).trans h1, pt_below h2 hb, h3, own_below h4 hb⟩
def dTold (kind : Int) (a : An) : List UInt8 :=
  if kind = 1 then (if a.b then [111, 108, 100] else [110, 101, 119])
  else if a.b = false then [110, 111, 110, 101]
  else if kind = 4 ∨ kind = 5 ∨ kind = 7 then jnd [a.k, a.v]
  else dg a.v.toNat
def RetDo (kb : Nat) (l : PL) (ops : List OP) (kind key val : Int) (w : World) (e : Ending) (w' : World) : Prop :=
  ((doA l kind key).e ≠ 0 ∧ e = .panicked (slipC (doA l kind key).e) ∧ Below w.heap.size w w') ∨
  ((doA l kind key).e = 0 ∧ e = .returned (.string (bsv (dTold kind (doA l kind key)))) ∧ DB w' kb (doL l kind key val) (ops ++ [(kind, key, val)]) ∧ KpB kb w w')
theorem step_op1 {P : Program} {w : World} {ops : Array Oper} {o : Oper} {a : Act} {K : Act → World → Prop} {Q : Exit → Act → World → Prop} {E : Prop} (hgd : o.guard = none) (s x : Operand) (T : TypeId)
    (ho : o.op = .call { callee := .builtin .append, args := #[s, x], argTypes := #[T, T] }) (e : TypeId) (hu : P.underlying T = some (.slice e)) (hi : (P.info? e).map (fun i => (i.zero, i.size, i.bytes)) = some (some (.agg #[I 0, I 0, I 0]), 3, 24))
    (base : Nat) (v : Value) (n : Nat) (xs : List Value) (sp : Addr) (news : List Value) (hs : a.eval s = v) (hsx : a.eval x = .slice (some sp) 1 1) (hown : w.ownsRow base e 3 v n xs) (hl : news.length = 3) (hc : ∀ j u, news[j]? = some u → w.cell? (sp.add j) = some u) (h1 : ∀ u ∈ news, u.oneCell' = true) (hbound : n ≤ 1000000) (hbase : base ≤ w.heap.size)
    (h : ∀ v' w', w'.ownsRow base e 3 v' (n + 1) (xs ++ news) → w.grownBy w' v.ownBlock → K (a.put o.dst v') w') :
    if Region.wanted o (yielded ops a.tmps) = true then Oper.wp P o a w K Q else E := by
  have hw : Region.wanted o (yielded ops a.tmps) = true := by simp [Region.wanted, hgd]
  rw [if_pos hw]
  obtain ⟨i, e1, e2, e3, e4⟩ := info_parts hi
  obtain ⟨v', w', hrun, h2, h3, _, _⟩ := run_append_own_at (P := P) w base T o.type e i _ 3 24 hu e1 e2 e3 e4 rfl (by decide) v n xs hown sp 1 1 news hl hc h1 (by unfold maxLen; omega) (by omega) hbase
  unfold Oper.wp execOp
  simp only [ho, resolve, invoke, builtin, Sem.run_bind, Sem.run_pure, Result.andThen_ok, List.map_toArray, List.map_cons, List.map_nil, hs, hsx, hrun]
  exact h v' w' h2 h3

structure Af (w wx : World) (kind key val : Int) (a : An) (A : Option Addr) (n c : Nat) (L : PL) (g : Nat) : Prop where
  hg : w.heap.size < g
  an : wx.heap[g]? = some (.cells #[I a.e, I a.k, I a.v, .bool a.b] 51 (0, 0))
  pt : T.PT wx A n c L
  fr : ∀ ad, A = some ad → w.heap.size < ad.block
  bel : Below w.heap.size w wx
  op : wx.heap[w.heap.size]? = some (.cells #[I kind, I key, I val] 69 (0, 0))
theorem af_one {w w2 : World} {kind key val : Int} {a : An} {A : Option Addr} {n c : Nat} {L : PL}
    (hp : T.PT w2 A n c L) (hb : Below (w.alloc (.cells #[I kind, I key, I val] 69)).drew.heap.size (w.alloc (.cells #[I kind, I key, I val] 69)).drew w2) (hA : ∀ ad, A = some ad → (w.alloc (.cells #[I kind, I key, I val] 69)).drew.heap.size ≤ ad.block) :
    Af w (w2.alloc (.cells #[I a.e, I a.k, I a.v, .bool a.b] 51)) kind key val a A n c L w2.heap.size := by
  have hz : (w.alloc (.cells #[I kind, I key, I val] 69)).drew.heap.size = w.heap.size + 1 := by show (w.alloc _).heap.size = _; rw [World.size_alloc]
  have hs := hb.size
  rw [hz] at hs hb hA
  refine ⟨by omega, heap_alloc_new _ _, pt_below hp ((Below.refl _ _).alloc (Nat.le_refl _) _), fun ad e => by have := hA ad e; omega, ?_, ?_⟩
  · have hb' := hb.mono (show w.heap.size ≤ w.heap.size + 1 by omega)
    exact (((Below.refl _ _).alloc (Nat.le_refl _) _).drew.trans hb').alloc (by omega) _
  · rw [Below.heap_alloc _ _ _ (by omega), hb.block _ (by omega)]
    exact heap_alloc_new _ _
theorem af_two {w w2 : World} {kind key val : Int} {a : An} {A : Option Addr} {n c : Nat} {L : PL}
    (hp : T.PT w2 A n c L) (hb : Below ((w.alloc (.cells #[I kind, I key, I val] 69)).alloc ansO).drew.heap.size ((w.alloc (.cells #[I kind, I key, I val] 69)).alloc ansO).drew w2) (hA : ∀ ad, A = some ad → ((w.alloc (.cells #[I kind, I key, I val] 69)).alloc ansO).drew.heap.size ≤ ad.block) :
    Af w (st4 w2 (w.heap.size + 1) a.e a.k a.v a.b) kind key val a A n c L (w.heap.size + 1) := by
  have hz : ((w.alloc (.cells #[I kind, I key, I val] 69)).alloc ansO).drew.heap.size = w.heap.size + 2 := by show ((w.alloc _).alloc _).heap.size = _; rw [World.size_alloc, World.size_alloc]
  have hs := hb.size
  rw [hz] at hs hb hA
  have h0 : w2.heap[w.heap.size + 1]? = some (.cells #[I 0, I 0, I 0, .bool false] 51 (0, 0)) := (hb.block (w.heap.size + 1) (by omega)).trans (by have := heap_alloc_new (w.alloc (.cells #[I kind, I key, I val] 69)) ansO; rw [World.size_alloc] at this; exact this)
  refine ⟨by omega, ?_, pt_keep hp (by simp [World.setCell]) (fun ad e => ?_), fun ad e => by have := hA ad e; omega, ?_, ?_⟩
  · exact set_at (set_at (set_at (set_at h0)))
  · have := hA ad e
    have hne : ad.block ≠ w.heap.size + 1 := by omega
    exact (Below.heap_setCell _ _ _ _ hne).trans ((Below.heap_setCell _ _ _ _ hne).trans ((Below.heap_setCell _ _ _ _ hne).trans (Below.heap_setCell _ _ _ _ hne)))
  · have hb' := hb.mono (show w.heap.size ≤ w.heap.size + 2 by omega)
    exact below_st4 ((((Below.refl _ _).alloc (Nat.le_refl _) _).alloc (by rw [World.size_alloc]; omega) _).drew.trans hb') (by omega) _ _ _ _
  · have hne : w.heap.size ≠ w.heap.size + 1 := by omega
    rw [Below.heap_setCell _ _ _ _ hne, Below.heap_setCell _ _ _ _ hne, Below.heap_setCell _ _ _ _ hne, Below.heap_setCell _ _ _ _ hne, hb.block _ (by omega)]
    exact (Below.heap_alloc _ _ _ (by rw [World.size_alloc]; omega)).trans (heap_alloc_new _ _)
structure Ad (w wx : World) (kb : Nat) (kind key val : Int) (a : An) (L : PL) (ops : List OP) (g : Nat) : Prop where
  db : DB wx kb L ops
  kp : KpB kb w wx
  an : wx.heap[g]? = some (.cells #[I a.e, I a.k, I a.v, .bool a.b] 51 (0, 0))
  op : wx.heap[w.heap.size]? = some (.cells #[I kind, I key, I val] 69 (0, 0))
theorem own_op1 {w : World} {base : Nat} {v : Value} {ops : List OP} {a b c : Int} (h : w.ownsRow base 69 3 v (ops.length + 1) (flatO ops ++ [I a, I b, I c])) : OwnO w base v (ops ++ [(a, b, c)]) := by
  unfold OwnO
  rw [List.length_append, flatO_append]
  exact h
theorem app_kb {w2 w4 X : World} {kb : Nat} {C : Array Value} {oA : Option Addr} {oc : Nat} {ops : List OP} (hX : Below w2.heap.size w2 X) (h1 : w2.heap[kb]? = some (.cells C 87 (0, 0))) (h4 : OwnO w2 (kb + 1) (.slice oA ops.length oc) ops) (hg : X.grownBy w4 (Value.slice oA ops.length oc).ownBlock) :
    w4.heap[kb]? = some (.cells C 87 (0, 0)) := by
  have hlt := (Array.getElem?_eq_some_iff.1 h1).1
  rw [hg.block kb (by have := hX.size; omega) (fun e => by have := own_ge1 h4 kb e.symm; omega), hX.block kb hlt]
  exact h1
theorem ad_mk {w w2 w4 X : World} {kb g n c : Nat} {kind key val : Int} {a : An} {A : Option Addr} {L : PL} {p0 : Value} {oA : Option Addr} {oc : Nat} {ops : List OP} {v' : Value}
    (hw : w.heap[kb]? = some (.cells #[p0, .slice oA ops.length oc] 87 (0, 0))) (how : OwnO w (kb + 1) (.slice oA ops.length oc) ops) (hf : Af w w2 kind key val a A n c L g)
    (hX : Below w2.heap.size w2 X) (hown : OwnO w4 (kb + 1) v' (ops ++ [(kind, key, val)])) (hg : X.grownBy w4 (Value.slice oA ops.length oc).ownBlock) (hv : ∀ k, v'.ownBlock = some k → kb < k) :
    Ad w ((w4.setCell ⟨kb, 0, none⟩ (.slice A n c)).setCell ⟨kb, 1, none⟩ v') kb kind key val a L (ops ++ [(kind, key, val)]) g := by
  have hkw := (Array.getElem?_eq_some_iff.1 hw).1
  have hXw : Below w.heap.size w X := hf.bel.trans (hX.mono hf.bel.size)
  have hrow : ∀ k, (Value.slice oA ops.length oc).ownBlock = some k → kb < k ∧ k < w.heap.size := fun k hk => by
    obtain ⟨cs, fz, hc⟩ := own_row how k hk
    exact ⟨own_ge1 how k hk, (Array.getElem?_eq_some_iff.1 hc).1⟩
  have hblk : ∀ k, k < w2.heap.size → (k < w.heap.size → k ≤ kb) → w4.heap[k]? = w2.heap[k]? := fun k hk h2 => by
    rw [hg.block k (by have := hX.size; omega) (fun e => by have := hrow k e.symm; have := h2 this.2; omega), hX.block k hk]
  have h4 := set_at (i := 0) (v := .slice A n c) ((hblk kb (by have := hf.bel.size; omega) (fun _ => Nat.le_refl _)).trans ((hf.bel.block kb hkw).trans hw))
  have h5 := set_at (i := 1) (v := v') h4
  have hne : ∀ k, k ≠ kb → ((w4.setCell ⟨kb, 0, none⟩ (.slice A n c)).setCell ⟨kb, 1, none⟩ v').heap[k]? = w4.heap[k]? := fun k hk => (Below.heap_setCell _ _ _ _ hk).trans (Below.heap_setCell _ _ _ _ hk)
  have hsz : w2.heap.size ≤ w4.heap.size := Nat.le_trans hX.size hg.size
  have hgl : g < w2.heap.size := (Array.getElem?_eq_some_iff.1 hf.an).1
  have hol : w.heap.size < w2.heap.size := (Array.getElem?_eq_some_iff.1 hf.op).1
  have hAl : ∀ ad, A = some ad → ad.block < w2.heap.size := fun ad e => by
    obtain ⟨cs, fz, hc⟩ := hf.pt.ty ad e
    exact (Array.getElem?_eq_some_iff.1 hc).1
  refine ⟨⟨A, n, c, v', h5, ?_, fun ad e => by have := hf.fr ad e; omega, ?_⟩, ⟨?_, ?_⟩, ?_, ?_⟩
  · refine pt_keep hf.pt (by simp [World.setCell]; omega) fun ad e => ?_
    have h6 := hf.fr ad e
    exact (hne _ (by omega)).trans (hblk _ (hAl ad e) (fun h => by omega))
  · refine own_keep hown fun k hk => hne k ?_
    have := hv k hk
    omega
  · have hB1 := hXw.mono (show kb ≤ w.heap.size by omega)
    have hB2 := hB1.grown hg (by have := hXw.size; omega) (fun k hk => by have := (hrow k hk).1; omega)
    exact (hB2.setCell (p := ⟨kb, 0, none⟩) (Nat.le_refl kb) _).setCell (p := ⟨kb, 1, none⟩) (Nat.le_refl kb) _
  · refine Lib.OthersKept.setCell (b := kb) (Lib.OthersKept.setCell (b := kb) ((Lib.OthersKept.below (Lib.OthersKept.refl _ _ _) hXw).grown hg fun k hk => ?_) ⟨kb, 0, none⟩ rfl _) ⟨kb, 1, none⟩ rfl _
    obtain ⟨cs, fz, hc⟩ := own_row how k hk
    exact ⟨cs, fz, (hXw.block k (Array.getElem?_eq_some_iff.1 hc).1).trans hc⟩
  · exact (hne g (by have := hf.hg; omega)).trans ((hblk g hgl (fun h => by have := hf.hg; omega)).trans hf.an)
  · exact (hne _ (by omega)).trans ((hblk _ hol (fun h => by omega)).trans hf.op)
set_option maxRecDepth 100000 in
set_option maxHeartbeats 8000000 in
theorem ddo_any (kb : Nat) (l : PL) (ops : List OP) (kind key val : Int) (w : World) (h : DB w kb l ops) (hn : ops.length ≤ 1000) (hL : LD w) (hkb : 6 ≤ kb) (hchk : chk l = 0)
    (hbd : (doA l kind key).e = 0 → 0 ≤ (doA l kind key).k ∧ (doA l kind key).k < 100000000 ∧ 0 ≤ (doA l kind key).v ∧ (doA l kind key).v < 100000000) :
    Calls Tryz.prog 93 #[.pointer (some ⟨kb, 0, none⟩), .agg #[I kind, I key, I val]] w (RetDo kb l ops kind key val w) := by
  have hb0 : Below w.heap.size w (w.alloc (.cells #[I kind, I key, I val] 69)) := (Below.refl _ _).alloc (Nat.le_refl _) _
  have HB0 := Lib.hid hb0
  have HLT := Lib.hid h.lt
  have HH := Lib.hid h
  obtain ⟨pA, pn, pc, ov, h1, h2, h3, h4⟩ := h
  obtain ⟨oA, oc, rfl, -⟩ := OwnO.os h4
  have H1 := Lib.hid h1
  have H4 := Lib.hid h4
  have HLD := Lib.hid hL
  have hpn : pn ≤ 200 := by have := chk_len hchk; rw [h2.ps.len] at this; exact this
  have HDO : Hid (∀ x, Below w.heap.size w x → Calls Tryz.prog 58 #[.slice pA pn pc, .agg #[I kind, I key, I val]] x (T.RetPA (doL l kind key val) (doA l kind key) x)) := fun x hx => T.Do_any pA pn pc l kind key val x (h2.ps.below hx) (by omega)
  have d0 : ∀ x, Below w.heap.size w x → x.cell? ⟨kb, 0, none⟩ = some (.slice pA pn pc) := fun x hx => by rw [hx.cell (p := ⟨kb, 0, none⟩) HLT.out]; simp [World.cell?, h1]
  have D0 := Lib.hid d0
  have q0 : (w.alloc (.cells #[I kind, I key, I val] 69)).cell? ⟨kb, 0, none⟩ = some (.slice pA pn pc) := d0 _ hb0
  have q1 : ∀ o, ((w.alloc (.cells #[I kind, I key, I val] 69)).alloc o).cell? ⟨kb, 0, none⟩ = some (.slice pA pn pc) := fun o => d0 _ (hb0.alloc (by simp) _)
  clear hb0 d0 h1 h4 hL
  go_enter Tryz.func93, Tryz.ntmps93
  go_upto_region 1 with fail
  obtain ⟨⟨ae, ak, av, ab⟩, hann⟩ : ∃ a, doA l kind key = a := ⟨_, rfl⟩
  obtain ⟨L', hL'⟩ : ∃ L', doL l kind key val = L' := ⟨_, rfl⟩
  rw [hann, hL'] at HDO
  have HANN := Lib.hid hann
  have HLL := Lib.hid hL'
  rw [hann] at hbd
  clear hann hL'
  go_cut [5, 6] (fun s5 s6 wx => ∃ (A : Option Addr) (n' c' g : Nat), s5 = .slice A n' c' ∧ s6 = .pointer (some ⟨g, 0, none⟩) ∧ Hid (Af w wx kind key val ⟨ae, ak, av, ab⟩ A n' c' L' g))
  case first =>
    go_region_with (first
      | (go_at_call 58
         refine (HDO.out _ (by first | exact HB0.out.drew | exact (HB0.out.alloc (by simp) _).drew)).mono ?_
         rintro e w2 ⟨A2, n2, c2, rfl, hp2, hb2, hA2⟩
         first
           | (have hab : AB w2 (w.heap.size + 1) := (hb2.block (w.heap.size + 1) (by show w.heap.size + 1 < ((w.alloc _).alloc _).heap.size; rw [World.size_alloc, World.size_alloc]; omega)).trans (by have := heap_alloc_new (w.alloc (.cells #[I kind, I key, I val] 69)) ansO; rw [World.size_alloc] at this; exact this)
              obtain ⟨⟨a0, a1, a2, a3⟩, f0, f1, f2, f3⟩ := hab.facts
              clear hab)
           | skip
         have HP2 := Lib.hid hp2
         have HB2 := Lib.hid hb2
         have HA2 := Lib.hid hA2
         clear hp2 hb2 hA2))
    all_goals
      go_wp2_with fail
      go_meet
      case rel =>
        first
          | (have h9 := a0
             exact ⟨A2, n2, c2, w.heap.size + 1, rfl, rfl, Lib.hid (af_two (a := ⟨ae, ak, av, ab⟩) HP2.out HB2.out HA2.out)⟩)
          | exact ⟨A2, n2, c2, w2.heap.size, rfl, rfl, Lib.hid (af_one (a := ⟨ae, ak, av, ab⟩) HP2.out HB2.out HA2.out)⟩
  case rest =>
  obtain ⟨A, n', c', g, rfl, rfl, HAF⟩ := hcut
  obtain ⟨w2, rfl⟩ : ∃ x, x = wc := ⟨wc, rfl⟩
  have e0 : w2.cell? ⟨g, 0, none⟩ = some (I ae) := by simp [World.cell?, HAF.out.an]
  clear q0 q1
  by_cases hae : ae = 0
  · subst hae
    go_wp2_with fail
    refine (must_ok w2).mono ?_
    rintro e x ⟨rfl, hx⟩
    subst hx
    have hk2 : w2.heap[kb]? = some (.cells #[.slice pA pn pc, .slice oA ops.length oc] 87 (0, 0)) := (HAF.out.bel.block kb HLT.out).trans H1.out
    have k1 : w2.cell? ⟨kb, 1, none⟩ = some (.slice oA ops.length oc) := by simp [World.cell?, hk2]
    have k1' : ∀ o, (w2.alloc o).cell? ⟨kb, 1, none⟩ = some (.slice oA ops.length oc) := fun o => (World.cell?_of_block (Below.heap_alloc _ _ _ (Array.getElem?_eq_some_iff.1 hk2).1)).trans k1
    have b0 : w2.cell? ⟨w.heap.size, 0, none⟩ = some (I kind) := by simp [World.cell?, HAF.out.op]
    have b1 : w2.cell? ⟨w.heap.size, 1, none⟩ = some (I key) := by simp [World.cell?, HAF.out.op]
    have b2 : w2.cell? ⟨w.heap.size, 2, none⟩ = some (I val) := by simp [World.cell?, HAF.out.op]
    have how2 : OwnO w2 (kb + 1) (.slice oA ops.length oc) ops := own_below H4.out HAF.out.bel
    have HOW2 := Lib.hid how2
    have HK2 := Lib.hid hk2
    have hkz : kb + 1 ≤ w2.heap.size := (Array.getElem?_eq_some_iff.1 hk2).1
    clear how2 hk2
    go_upto_region 3 with fail
    go_cut [4] (fun s4 wx => s4 = .string ⟨#[]⟩ ∧ Hid (Ad w wx kb kind key val ⟨0, ak, av, ab⟩ L' (ops ++ [(kind, key, val)]) g))
    case first =>
      go_region_law (first
        | (refine step_op1 rfl (.tmp 25) (.tmp 27) 32 rfl 69 Tryz.underlying32 op_info (kb + 1) (.slice oA ops.length oc) ops.length (flatO ops) ⟨w2.heap.size, 0, none⟩ [I kind, I key, I val] rfl rfl (by first | exact own_below HOW2.out ((Below.refl _ _).alloc (Nat.le_refl _) _) | exact own_below HOW2.out (((Below.refl _ _).alloc (Nat.le_refl _) _).drew)) rfl (fun j u hu => three_new w2 kind key val _ j u hu) (three_one kind key val) (by omega) (by first | (rw [World.size_alloc]; omega) | (show _ ≤ (w2.alloc _).heap.size; rw [World.size_alloc]; omega)) ?_
           intro v4 w4 hown4 hgrow4
           have ho4 := own_op1 hown4
           have hkb4 := app_kb (by first | exact (Below.refl _ _).alloc (Nat.le_refl _) _ | exact ((Below.refl _ _).alloc (Nat.le_refl _) _).drew) HK2.out HOW2.out hgrow4
           have m0 : w4.cell? ⟨kb, 0, none⟩ = some (.slice pA pn pc) := by simp [World.cell?, hkb4]
           have m1 : w4.cell? ⟨kb, 1, none⟩ = some (.slice oA ops.length oc) := by simp [World.cell?, hkb4]
           have fz0 : w4.frozen? ⟨kb, 0, none⟩ = false := by simp [World.frozen?, hkb4]
           have fz1 : w4.frozen? ⟨kb, 1, none⟩ = false := by simp [World.frozen?, hkb4]
           have HAD := Lib.hid (ad_mk H1.out H4.out HAF.out (by first | exact (Below.refl _ _).alloc (Nat.le_refl _) _ | exact ((Below.refl _ _).alloc (Nat.le_refl _) _).drew) ho4 hgrow4 (fun k hk => own_ge1 ho4 k hk))
           obtain ⟨A4, c4, hv4, -⟩ := OwnO.os ho4
           rw [List.length_append, List.length_singleton] at hv4
           subst hv4
           clear hown4 hgrow4 ho4 hkb4))
      all_goals
        go_wp2_with fail
        go_meet
        case rel => exact ⟨rfl, HAD⟩
    case rest =>
    obtain ⟨rfl, HAD⟩ := hcut
    obtain ⟨w5, rfl⟩ : ∃ x, x = wc := ⟨wc, rfl⟩
    have p0 : w5.cell? ⟨w.heap.size, 0, none⟩ = some (I kind) := by simp [World.cell?, HAD.out.op]
    have p1 : w5.cell? ⟨g, 1, none⟩ = some (I ak) := by simp [World.cell?, HAD.out.an]
    have p2 : w5.cell? ⟨g, 2, none⟩ = some (I av) := by simp [World.cell?, HAD.out.an]
    have p3 : w5.cell? ⟨g, 3, none⟩ = some (.bool ab) := by simp [World.cell?, HAD.out.an]
    have HL5 : Hid (LD w5) := HLD.out.below HAD.out.kp.bel hkb HAD.out.kp.bel.size
    obtain ⟨hb1, hb2, hb3, hb4⟩ := hbd trivial
    obtain ⟨xk, rfl⟩ : ∃ x : Nat, ak = x := ⟨ak.toNat, by omega⟩
    obtain ⟨xv, rfl⟩ : ∃ x : Nat, av = x := ⟨av.toNat, by omega⟩
    have HIT := Lib.hid (itoa_any xv (by omega) w5 HL5.out)
    clear hbd k1 k1' b0 b1 b2 e0 hkz
    have HEND : ∀ (t : List UInt8) (wz : World), dTold kind ⟨0, xk, xv, ab⟩ = t → Below w5.heap.size w5 wz → RetDo kb l ops kind key val w (.returned (.string (bsv t))) wz := fun t wz ht hb => by
      refine .inr ⟨by rw [HANN.out], by rw [HANN.out, ht], ?_, ?_⟩
      · rw [HLL.out]; exact HAD.out.db.below hb
      · exact HAD.out.kp.trans (KpB.of hb HAD.out.db.lt)
    have HE := Lib.hid HEND
    clear HEND
    by_cases hk1 : kind = 1
    · subst hk1
      cases ab with
      | true =>
        go_wp2
        go_ret
        exact HE.out _ _ (by unfold dTold; rw [if_pos rfl]; rfl) (Below.refl _ _)
      | false =>
        go_wp2
        go_ret
        exact HE.out _ _ (by unfold dTold; rw [if_pos rfl]; rfl) (Below.refl _ _)
    · have hk1b : (kind == 1) = false := by rw [beq_eq_false_iff_ne]; exact hk1
      have HK1 := Lib.hid hk1
      clear hk1
      cases ab with
      | false =>
        go_wp2
        go_ret
        exact HE.out _ _ (by unfold dTold; rw [if_neg HK1.out, if_pos rfl]) (Below.refl _ _)
      | true =>
        by_cases hk3 : kind = 4 ∨ kind = 5 ∨ kind = 7
        · have hj : ∀ wa, Below w5.heap.size w5 wa → wa = w5.alloc (.cells #[I xk, I xv] 3) → Calls Tryz.prog 159 #[.slice (some ⟨w5.heap.size, 0, none⟩) 2 2] wa fun e w' => e = .returned (.string (bsv (jnd [(xk : Int), (xv : Int)]))) ∧ Below wa.heap.size wa w' := fun wa hb e => by
            have hI : IS wa (some ⟨w5.heap.size, 0, none⟩) 2 2 [(xk : Int), (xv : Int)] := by
              have := IB.new w5 3 [(xk : Int), (xv : Int)]
              rw [e]
              exact this.is_ (Nat.le_refl _)
            exact joined_any _ 2 2 _ wa hI (by omega) (fun x hx => by simp at hx; omega) (HL5.out.next hb)
          have HJ := Lib.hid hj
          clear hj
          rcases hk3 with rfl | rfl | rfl
          all_goals
            go_wp2_with fail
            refine (HJ.out _ ((Below.refl _ _).alloc (Nat.le_refl _) _) rfl).mono ?_
            rintro e w6 ⟨rfl, hb6⟩
            have HB6 : Hid (Below w5.heap.size w5 w6) := ((Below.refl _ _).alloc (Nat.le_refl _) _).trans (hb6.mono (by rw [World.size_alloc]; omega))
            clear hb6
            go_wp2
            go_ret
            exact HE.out _ _ (by unfold dTold; rw [if_neg (by decide), if_neg (show ¬ (true = false) by decide), if_pos (by decide)]) HB6.out
        · have hk4 : (kind == 4) = false := by rw [beq_eq_false_iff_ne]; omega
          have hk5 : (kind == 5) = false := by rw [beq_eq_false_iff_ne]; omega
          have hk7 : (kind == 7) = false := by rw [beq_eq_false_iff_ne]; omega
          have HK3 := Lib.hid hk3
          clear hk3
          go_wp2_with fail
          refine HIT.out.mono ?_
          rintro e w6 ⟨rfl, hb6⟩
          have HB6 := Lib.hid hb6
          clear hb6
          go_wp2
          go_ret
          exact HE.out _ _ (by unfold dTold; rw [if_neg HK1.out, if_neg (show ¬ (true = false) by decide), if_neg HK3.out]; rfl) HB6.out
  · have HM := Lib.hid (must_bad ae hae w2)
    go_wp2_with fail
    refine HM.out.mono ?_
    rintro e x ⟨rfl, hx⟩
    subst hx
    go_wp2
    refine ⟨rfl, .inl ⟨?_, ?_, HAF.out.bel⟩⟩
    · rw [HANN.out]; exact hae
    · rw [HANN.out]
end Go.Proofs.YtpnjnedfcdppaaaGreatDoor
