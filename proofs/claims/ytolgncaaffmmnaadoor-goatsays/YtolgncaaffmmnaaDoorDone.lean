/-
  Done, of a right map: kind by kind.
-/
import Derived.Test.YtolgncaaffmmnaaDoorDonePureAll
namespace Go.Proofs.YtolgncaaffmmnaaDoor
open Go.RowKit

/-- a map and an answer come back: the map that came in, or a new one -/
def RetD (A : Option Addr) (N : Nat) (l : PL) (a : An) (w : World) (e : Ending) (w' : World) : Prop :=
  ∃ A' n c, e = .returned (.tuple #[.slice A' n c, anV a]) ∧ PS w' A' n c l ∧ Below w.heap.size w w' ∧ ((A' = A ∧ n = N) ∨ ∀ ad, A' = some ad → w.heap.size ≤ ad.block)
theorem retD_same {A : Option Addr} {l L : PL} {a : An} {w W : World} {n c : Nat} {e k v : Int} {b : Bool} (h : PS w A n c l) (hL : L = l) (hb : Below w.heap.size w W) (ha : a = ⟨e, k, v, b⟩) : RetD A n L a w (.returned (.tuple #[.slice A n c, anV ⟨e, k, v, b⟩])) W := by
  subst ha hL
  exact ⟨A, n, c, rfl, h.below hb, hb, .inl ⟨rfl, rfl⟩⟩
theorem retD_new {A A' : Option Addr} {N : Nat} {L : PL} {a : An} {w W : World} {n c : Nat} {e k v : Int} {b : Bool} (h : PS W A' n c L) (hb : Below w.heap.size w W) (ha : a = ⟨e, k, v, b⟩) (hA : ∀ ad, A' = some ad → w.heap.size ≤ ad.block) : RetD A N L a w (.returned (.tuple #[.slice A' n c, anV ⟨e, k, v, b⟩])) W := by
  subst ha
  exact ⟨A', n, c, rfl, h, hb, .inr hA⟩

set_option maxRecDepth 100000 in
set_option maxHeartbeats 2000000 in
theorem Done_kind (A : Option Addr) (n c : Nat) (l : PL) (kind key val : Int) (w : World) (h : PS w A n c l) (hc : chk l = 0) (hk : kind < 1 ∨ 7 < kind) :
    Calls Tryd.prog 34 #[.slice A n c, .agg #[I kind, I key, I val]] w (RetD A n (doL l kind key val) (doA l kind key) w) := by
  have hn : n ≤ 200 := by have := chk_len hc; rw [h.len] at this; exact this
  have hs := ((chk_zero l).1 hc).2
  have H := Lib.hid h
  have Hlen := Lib.hid h.len
  clear h
  have HB17 : Hid (btwB kind 1 7 = false) := by show btwB kind 1 7 = false; simp [btwB]; omega
  have ho : opB kind key = false := by
    unfold opB
    rw [if_neg (by omega)]
    exact decide_eq_false (by omega)
  have HF : Hid (doL l kind key val = l ∧ doA l kind key = ⟨1, 0, 0, false⟩) := by show _ ∧ _; simp [doL, doA, hc, ho]
  clear hc hs ho hk
  go_enter Tryd.func34, Tryd.ntmps34
  go_wp2_with fail
  refine (Between_f _ _ _ _ HB17.out).mono ?_
  rintro e w' ⟨rfl, rfl⟩
  go_wp2
  refine bodyPost_ret (v := .tuple #[.slice A n c, anV ⟨1, 0, 0, false⟩]) (by simp [results, Tryd.results34, go_sem]) rfl ?_
  exact retD_same H.out HF.out.1 (((Below.refl _ _).alloc (Nat.le_refl _) _).alloc (by simp) _) HF.out.2

set_option maxRecDepth 100000 in
set_option maxHeartbeats 2000000 in
theorem Done_key (A : Option Addr) (n c : Nat) (l : PL) (kind key val : Int) (w : World) (h : PS w A n c l) (hc : chk l = 0) (hk : 1 ≤ kind ∧ kind ≤ 5) (hk2 : keyB key = false) :
    Calls Tryd.prog 34 #[.slice A n c, .agg #[I kind, I key, I val]] w (RetD A n (doL l kind key val) (doA l kind key) w) := by
  have hn : n ≤ 200 := by have := chk_len hc; rw [h.len] at this; exact this
  have hs := ((chk_zero l).1 hc).2
  have H := Lib.hid h
  have Hlen := Lib.hid h.len
  clear h
  have HB17 : Hid (btwB kind 1 7 = true) := by show btwB kind 1 7 = true; simp [btwB]; omega
  have HBK : Hid (btwB key 0 1000000 = false) := hk2
  have ho : opB kind key = false := by unfold opB; rw [if_pos hk]; exact hk2
  have HF : Hid (doL l kind key val = l ∧ doA l kind key = ⟨1, 0, 0, false⟩) := by show _ ∧ _; simp [doL, doA, hc, ho]
  have h6 : kind < 6 := by omega
  clear hc hs ho hk hk2
  go_enter Tryd.func34, Tryd.ntmps34
  go_wp2_with fail
  refine (Between_t _ _ _ _ HB17.out).mono ?_
  rintro e w' ⟨rfl, rfl⟩
  go_wp2_with fail
  refine (Between_f _ _ _ _ HBK.out).mono ?_
  rintro e w' ⟨rfl, rfl⟩
  go_wp2
  refine bodyPost_ret (v := .tuple #[.slice A n c, anV ⟨1, 0, 0, false⟩]) (by simp [results, Tryd.results34, go_sem]) rfl ?_
  exact retD_same H.out HF.out.1 (((Below.refl _ _).alloc (Nat.le_refl _) _).alloc (by simp) _) HF.out.2

set_option maxRecDepth 100000 in
set_option maxHeartbeats 2000000 in
theorem Done_2 (A : Option Addr) (n c : Nat) (l : PL) (key val : Int) (w : World) (h : PS w A n c l) (hc : chk l = 0) (hk2 : keyB key = true) :
    Calls Tryd.prog 34 #[.slice A n c, .agg #[I 2, I key, I val]] w (RetD A n (doL l 2 key val) (doA l 2 key) w) := by
  have hn : n ≤ 200 := by have := chk_len hc; rw [h.len] at this; exact this
  have hs := ((chk_zero l).1 hc).2
  have H := Lib.hid h
  have Hlen := Lib.hid h.len
  clear h
  obtain ⟨g, hg⟩ : ∃ g, getR key l = g := ⟨_, rfl⟩
  have HHV : Hid (hasV l key = g.getD 0) := by show _ = _; rw [hasV_eq hs, hg]
  have HHI : Hid (hasI l key = g.isSome) := by show _ = _; rw [hasI_eq hs, hg]
  have HBK : Hid (btwB key 0 1000000 = true) := hk2
  have hk0 : 0 ≤ key := by simp [keyB] at hk2; omega
  have hk1 : key ≤ 1000000 := by simp [keyB] at hk2; omega
  have HF : Hid (doL l 2 key val = l ∧ doA l 2 key = ⟨0, 0, g.getD 0, g.isSome⟩) := by
    show _ ∧ _
    refine ⟨by simp [doL, hc, opB, hk2], ?_⟩
    rw [doA_get hc, hk2, if_pos rfl, getA_eq, hg]
    cases g <;> rfl
  clear hc hs hg hk2
  go_enter Tryd.func34, Tryd.ntmps34
  go_wp2_with fail
  refine (Between_t _ _ _ _ (by decide)).mono ?_
  rintro e w' ⟨rfl, rfl⟩
  go_wp2_with fail
  refine (Between_t _ _ _ _ HBK.out).mono ?_
  rintro e w' ⟨rfl, rfl⟩
  go_wp2_with fail
  refine (Has_any A n c l key _ (H.out.below (w0_below w 2 key val)) (by omega)).mono ?_
  rintro e w1 ⟨rfl, hb⟩
  rw [HHV.out, HHI.out]
  have hsz := w0_size w 2 key val
  have hab : AB w1 (w.heap.size + 1) := (w0_ab w 2 key val).below hb (by omega)
  have hob : OB w1 w.heap.size 2 key val := (w0_ob w 2 key val).below hb (by omega)
  obtain ⟨o0, o1, o2⟩ := hob.facts
  have HSZ1 : Hid (w.heap.size + 2 ≤ w1.heap.size) := by have := hb.size; show _ ≤ _; omega
  have HB1 := Lib.hid ((w0_below w 2 key val).trans (hb.mono (by omega)))
  have HAB1 := Lib.hid hab
  clear hb hab hob hsz
  obtain ⟨⟨a0, a1, a2, a3⟩, f0, f1, f2, f3⟩ := HAB1.out.facts
  go_wp2
  refine bodyPost_ret (v := .tuple #[.slice A n c, anV ⟨0, 0, g.getD 0, g.isSome⟩]) (by simp [results, Tryd.results34, go_sem, a0, a1, a2, a3]) rfl ?_
  exact retD_same H.out HF.out.1 (below_st4 HB1.out (by simp) _ _ _ _) HF.out.2

set_option maxRecDepth 100000 in
set_option maxHeartbeats 2000000 in
theorem Done_6 (A : Option Addr) (n c : Nat) (l : PL) (key val : Int) (w : World) (h : PS w A n c l) (hc : chk l = 0) :
    Calls Tryd.prog 34 #[.slice A n c, .agg #[I 6, I key, I val]] w (RetD A n (doL l 6 key val) (doA l 6 key) w) := by
  have hn : n ≤ 200 := by have := chk_len hc; rw [h.len] at this; exact this
  have hs := ((chk_zero l).1 hc).2
  have H := Lib.hid h
  have Hlen := Lib.hid h.len
  clear h
  obtain ⟨g, hg⟩ : ∃ g, getR key l = g := ⟨_, rfl⟩
  have HHV : Hid (hasV l key = g.getD 0) := by show _ = _; rw [hasV_eq hs, hg]
  have HHI : Hid (hasI l key = g.isSome) := by show _ = _; rw [hasI_eq hs, hg]
  have HBL := Lib.hid (blw_eq l key 0 hs)
  have HF : Hid (doL l 6 key val = l ∧ doA l 6 key = ⟨0, 0, cnt l key, true⟩) := by
    show _ ∧ _
    exact ⟨by simp [doL, hc, opB], doA_count hc key⟩
  clear hc hs hg
  go_enter Tryd.func34, Tryd.ntmps34
  go_wp2_with fail
  refine (Between_t _ _ _ _ (by decide)).mono ?_
  rintro e w' ⟨rfl, rfl⟩
  go_wp2_with fail
  refine (Has_any A n c l key _ (H.out.below (w0_below w 6 key val)) (by omega)).mono ?_
  rintro e w1 ⟨rfl, hb⟩
  rw [HHV.out, HHI.out]
  have hsz := w0_size w 6 key val
  have hab : AB w1 (w.heap.size + 1) := (w0_ab w 6 key val).below hb (by omega)
  have hob : OB w1 w.heap.size 6 key val := (w0_ob w 6 key val).below hb (by omega)
  obtain ⟨o0, o1, o2⟩ := hob.facts
  have HSZ1 : Hid (w.heap.size + 2 ≤ w1.heap.size) := by have := hb.size; show _ ≤ _; omega
  have HB1 := Lib.hid ((w0_below w 6 key val).trans (hb.mono (by omega)))
  have HAB1 := Lib.hid hab
  clear hb hab hob hsz
  go_wp2_with fail
  refine (Below_any A n c l key _ (H.out.below HB1.out) (by omega)).mono ?_
  rintro e w2 ⟨rfl, hb⟩
  rw [HBL.out]
  have HB2 := Lib.hid (below_next HB1.out hb)
  obtain ⟨⟨a0, a1, a2, a3⟩, f0, f1, f2, f3⟩ := (HAB1.out.below hb (by have := HSZ1.out; omega)).facts
  clear hb o0 o1 o2
  go_wp2
  refine bodyPost_ret (v := .tuple #[.slice A n c, anV ⟨0, 0, cnt l key, true⟩]) (by simp [results, Tryd.results34, go_sem, a0, a1, a2, a3]) rfl ?_
  exact retD_same H.out HF.out.1 (below_st4 HB2.out (by simp) _ _ _ _) HF.out.2

set_option maxRecDepth 100000 in
set_option maxHeartbeats 2000000 in
theorem Done_7 (A : Option Addr) (n c : Nat) (l : PL) (key val : Int) (w : World) (h : PS w A n c l) (hc : chk l = 0) :
    Calls Tryd.prog 34 #[.slice A n c, .agg #[I 7, I key, I val]] w (RetD A n (doL l 7 key val) (doA l 7 key) w) := by
  have hn : n ≤ 200 := by have := chk_len hc; rw [h.len] at this; exact this
  have hs := ((chk_zero l).1 hc).2
  have H := Lib.hid h
  have Hlen := Lib.hid h.len
  clear h
  obtain ⟨g, hg⟩ : ∃ g, getR key l = g := ⟨_, rfl⟩
  have HHV : Hid (hasV l key = g.getD 0) := by show _ = _; rw [hasV_eq hs, hg]
  have HHI : Hid (hasI l key = g.isSome) := by show _ = _; rw [hasI_eq hs, hg]
  have HF : Hid (doL l 7 key val = l ∧ doA l 7 key = pairA l key) := by
    show _ ∧ _
    exact ⟨by simp [doL, hc, opB], doA_nth hc key⟩
  clear hc hs hg
  go_enter Tryd.func34, Tryd.ntmps34
  go_wp2_with fail
  refine (Between_t _ _ _ _ (by decide)).mono ?_
  rintro e w' ⟨rfl, rfl⟩
  go_wp2_with fail
  refine (Has_any A n c l key _ (H.out.below (w0_below w 7 key val)) (by omega)).mono ?_
  rintro e w1 ⟨rfl, hb⟩
  rw [HHV.out, HHI.out]
  have hsz := w0_size w 7 key val
  have hab : AB w1 (w.heap.size + 1) := (w0_ab w 7 key val).below hb (by omega)
  have hob : OB w1 w.heap.size 7 key val := (w0_ob w 7 key val).below hb (by omega)
  obtain ⟨o0, o1, o2⟩ := hob.facts
  have HSZ1 : Hid (w.heap.size + 2 ≤ w1.heap.size) := by have := hb.size; show _ ≤ _; omega
  have HB1 := Lib.hid ((w0_below w 7 key val).trans (hb.mono (by omega)))
  have HAB1 := Lib.hid hab
  clear hb hab hob hsz
  go_wp2_with fail
  refine (nth_any A n c l key _ (H.out.below HB1.out) (by omega)).mono ?_
  rintro e w2 ⟨rfl, hb⟩
  have HB2 := Lib.hid (below_next HB1.out hb)
  obtain ⟨⟨a0, a1, a2, a3⟩, f0, f1, f2, f3⟩ := (HAB1.out.below hb (by have := HSZ1.out; omega)).facts
  clear hb o0 o1 o2
  go_wp2
  refine bodyPost_ret (v := .tuple #[.slice A n c, anV ⟨(pairA l key).e, (pairA l key).k, (pairA l key).v, (pairA l key).b⟩]) (by simp [results, Tryd.results34, go_sem, a0, a1, a2, a3]) rfl ?_
  exact retD_same H.out HF.out.1 (below_st4 HB2.out (by simp) _ _ _ _) HF.out.2

set_option maxRecDepth 100000 in
set_option maxHeartbeats 2000000 in
theorem Done_4 (A : Option Addr) (n c : Nat) (l : PL) (key val : Int) (w : World) (h : PS w A n c l) (hc : chk l = 0) (hk2 : keyB key = true) :
    Calls Tryd.prog 34 #[.slice A n c, .agg #[I 4, I key, I val]] w (RetD A n (doL l 4 key val) (doA l 4 key) w) := by
  have hn : n ≤ 200 := by have := chk_len hc; rw [h.len] at this; exact this
  have hs := ((chk_zero l).1 hc).2
  have H := Lib.hid h
  have Hlen := Lib.hid h.len
  clear h
  obtain ⟨g, hg⟩ : ∃ g, getR key l = g := ⟨_, rfl⟩
  have HHV : Hid (hasV l key = g.getD 0) := by show _ = _; rw [hasV_eq hs, hg]
  have HHI : Hid (hasI l key = g.isSome) := by show _ = _; rw [hasI_eq hs, hg]
  have HBK : Hid (btwB key 0 1000000 = true) := hk2
  have hk0 : 0 ≤ key := by simp [keyB] at hk2; omega
  have hk1 : key ≤ 1000000 := by simp [keyB] at hk2; omega
  have HBL := Lib.hid (blw_eq l (key + 1) 0 hs)
  have hcn : cnt l (key + 1) ≤ n := by have := cnt_le l (key + 1); rw [Hlen.out] at this; exact this
  have HF : Hid (doL l 4 key val = l ∧ doA l 4 key = pairA l (cnt l (key + 1))) := by
    show _ ∧ _
    exact ⟨by simp [doL, hc, opB, hk2], doA_next hc key hk2⟩
  clear hc hs hg hk2
  go_enter Tryd.func34, Tryd.ntmps34
  go_wp2_with fail
  refine (Between_t _ _ _ _ (by decide)).mono ?_
  rintro e w' ⟨rfl, rfl⟩
  go_wp2_with fail
  refine (Between_t _ _ _ _ HBK.out).mono ?_
  rintro e w' ⟨rfl, rfl⟩
  go_wp2_with fail
  refine (Has_any A n c l key _ (H.out.below (w0_below w 4 key val)) (by omega)).mono ?_
  rintro e w1 ⟨rfl, hb⟩
  rw [HHV.out, HHI.out]
  have hsz := w0_size w 4 key val
  have hab : AB w1 (w.heap.size + 1) := (w0_ab w 4 key val).below hb (by omega)
  have hob : OB w1 w.heap.size 4 key val := (w0_ob w 4 key val).below hb (by omega)
  obtain ⟨o0, o1, o2⟩ := hob.facts
  have HSZ1 : Hid (w.heap.size + 2 ≤ w1.heap.size) := by have := hb.size; show _ ≤ _; omega
  have HB1 := Lib.hid ((w0_below w 4 key val).trans (hb.mono (by omega)))
  have HAB1 := Lib.hid hab
  clear hb hab hob hsz
  go_wp2_with fail
  refine (Below_any A n c l (key + 1) _ (H.out.below HB1.out) (by omega)).mono ?_
  rintro e w2 ⟨rfl, hb⟩
  rw [HBL.out]
  have HB2 := Lib.hid (below_next HB1.out hb)
  have HAB2 := Lib.hid (HAB1.out.below hb (by have := HSZ1.out; omega))
  have HSZ2 : Hid (w.heap.size + 2 ≤ w2.heap.size) := by have := hb.size; have := HSZ1.out; show _ ≤ _; omega
  clear hb o0 o1 o2
  go_wp2_with fail
  refine (nth_any A n c l (cnt l (key + 1)) _ (H.out.below HB2.out) (by omega)).mono ?_
  rintro e w3 ⟨rfl, hb⟩
  have HB3 := Lib.hid (below_next HB2.out hb)
  obtain ⟨⟨a0, a1, a2, a3⟩, f0, f1, f2, f3⟩ := (HAB2.out.below hb (by have := HSZ2.out; omega)).facts
  clear hb
  go_wp2
  refine bodyPost_ret (v := .tuple #[.slice A n c, anV ⟨(pairA l (cnt l (key + 1))).e, (pairA l (cnt l (key + 1))).k, (pairA l (cnt l (key + 1))).v, (pairA l (cnt l (key + 1))).b⟩]) (by simp [results, Tryd.results34, go_sem, a0, a1, a2, a3]) rfl ?_
  exact retD_same H.out HF.out.1 (below_st4 HB3.out (by simp) _ _ _ _) HF.out.2

set_option maxRecDepth 100000 in
set_option maxHeartbeats 2000000 in
theorem Done_5 (A : Option Addr) (n c : Nat) (l : PL) (key val : Int) (w : World) (h : PS w A n c l) (hc : chk l = 0) (hk2 : keyB key = true) :
    Calls Tryd.prog 34 #[.slice A n c, .agg #[I 5, I key, I val]] w (RetD A n (doL l 5 key val) (doA l 5 key) w) := by
  have hn : n ≤ 200 := by have := chk_len hc; rw [h.len] at this; exact this
  have hs := ((chk_zero l).1 hc).2
  have H := Lib.hid h
  have Hlen := Lib.hid h.len
  clear h
  obtain ⟨g, hg⟩ : ∃ g, getR key l = g := ⟨_, rfl⟩
  have HHV : Hid (hasV l key = g.getD 0) := by show _ = _; rw [hasV_eq hs, hg]
  have HHI : Hid (hasI l key = g.isSome) := by show _ = _; rw [hasI_eq hs, hg]
  have HBK : Hid (btwB key 0 1000000 = true) := hk2
  have hk0 : 0 ≤ key := by simp [keyB] at hk2; omega
  have hk1 : key ≤ 1000000 := by simp [keyB] at hk2; omega
  have HBL := Lib.hid (blw_eq l key 0 hs)
  have hcn : cnt l key ≤ n := by have := cnt_le l key; rw [Hlen.out] at this; exact this
  have HF : Hid (doL l 5 key val = l ∧ doA l 5 key = pairA l (cnt l key - 1)) := by
    show _ ∧ _
    exact ⟨by simp [doL, hc, opB, hk2], doA_prev hc key hk2⟩
  clear hc hs hg hk2
  go_enter Tryd.func34, Tryd.ntmps34
  go_wp2_with fail
  refine (Between_t _ _ _ _ (by decide)).mono ?_
  rintro e w' ⟨rfl, rfl⟩
  go_wp2_with fail
  refine (Between_t _ _ _ _ HBK.out).mono ?_
  rintro e w' ⟨rfl, rfl⟩
  go_wp2_with fail
  refine (Has_any A n c l key _ (H.out.below (w0_below w 5 key val)) (by omega)).mono ?_
  rintro e w1 ⟨rfl, hb⟩
  rw [HHV.out, HHI.out]
  have hsz := w0_size w 5 key val
  have hab : AB w1 (w.heap.size + 1) := (w0_ab w 5 key val).below hb (by omega)
  have hob : OB w1 w.heap.size 5 key val := (w0_ob w 5 key val).below hb (by omega)
  obtain ⟨o0, o1, o2⟩ := hob.facts
  have HSZ1 : Hid (w.heap.size + 2 ≤ w1.heap.size) := by have := hb.size; show _ ≤ _; omega
  have HB1 := Lib.hid ((w0_below w 5 key val).trans (hb.mono (by omega)))
  have HAB1 := Lib.hid hab
  clear hb hab hob hsz
  go_wp2_with fail
  refine (Below_any A n c l key _ (H.out.below HB1.out) (by omega)).mono ?_
  rintro e w2 ⟨rfl, hb⟩
  rw [HBL.out]
  have HB2 := Lib.hid (below_next HB1.out hb)
  have HAB2 := Lib.hid (HAB1.out.below hb (by have := HSZ1.out; omega))
  have HSZ2 : Hid (w.heap.size + 2 ≤ w2.heap.size) := by have := hb.size; have := HSZ1.out; show _ ≤ _; omega
  clear hb o0 o1 o2
  go_wp2_with fail
  refine (nth_any A n c l (cnt l key - 1) _ (H.out.below HB2.out) (by omega)).mono ?_
  rintro e w3 ⟨rfl, hb⟩
  have HB3 := Lib.hid (below_next HB2.out hb)
  obtain ⟨⟨a0, a1, a2, a3⟩, f0, f1, f2, f3⟩ := (HAB2.out.below hb (by have := HSZ2.out; omega)).facts
  clear hb
  go_wp2
  refine bodyPost_ret (v := .tuple #[.slice A n c, anV ⟨(pairA l (cnt l key - 1)).e, (pairA l (cnt l key - 1)).k, (pairA l (cnt l key - 1)).v, (pairA l (cnt l key - 1)).b⟩]) (by simp [results, Tryd.results34, go_sem, a0, a1, a2, a3]) rfl ?_
  exact retD_same H.out HF.out.1 (below_st4 HB3.out (by simp) _ _ _ _) HF.out.2

set_option maxRecDepth 100000 in
set_option maxHeartbeats 2000000 in
theorem Done_3 (A : Option Addr) (n c : Nat) (l : PL) (key val : Int) (w : World) (h : PS w A n c l) (hc : chk l = 0) (hk2 : keyB key = true) :
    Calls Tryd.prog 34 #[.slice A n c, .agg #[I 3, I key, I val]] w (RetD A n (doL l 3 key val) (doA l 3 key) w) := by
  have hn : n ≤ 200 := by have := chk_len hc; rw [h.len] at this; exact this
  have hs := ((chk_zero l).1 hc).2
  have H := Lib.hid h
  have Hlen := Lib.hid h.len
  clear h
  obtain ⟨g, hg⟩ : ∃ g, getR key l = g := ⟨_, rfl⟩
  have HHV : Hid (hasV l key = g.getD 0) := by show _ = _; rw [hasV_eq hs, hg]
  have HHI : Hid (hasI l key = g.isSome) := by show _ = _; rw [hasI_eq hs, hg]
  have HBK : Hid (btwB key 0 1000000 = true) := hk2
  have hk0 : 0 ≤ key := by simp [keyB] at hk2; omega
  have hk1 : key ≤ 1000000 := by simp [keyB] at hk2; omega
  have HF : Hid (doL l 3 key val = wo l key ∧ doA l 3 key = ⟨0, 0, g.getD 0, g.isSome⟩) := by
    show _ ∧ _
    refine ⟨by rw [doL_cut hc, hk2, if_pos rfl, cutL_eq, wo_eq l key 0 hs], ?_⟩
    rw [doA_cut hc, hk2, if_pos rfl, getA_eq, hg]
    cases g <;> rfl
  clear hc hs hg hk2
  go_enter Tryd.func34, Tryd.ntmps34
  go_wp2_with fail
  refine (Between_t _ _ _ _ (by decide)).mono ?_
  rintro e w' ⟨rfl, rfl⟩
  go_wp2_with fail
  refine (Between_t _ _ _ _ HBK.out).mono ?_
  rintro e w' ⟨rfl, rfl⟩
  go_wp2_with fail
  refine (Has_any A n c l key _ (H.out.below (w0_below w 3 key val)) (by omega)).mono ?_
  rintro e w1 ⟨rfl, hb⟩
  rw [HHV.out, HHI.out]
  have hsz := w0_size w 3 key val
  have hab : AB w1 (w.heap.size + 1) := (w0_ab w 3 key val).below hb (by omega)
  have hob : OB w1 w.heap.size 3 key val := (w0_ob w 3 key val).below hb (by omega)
  obtain ⟨o0, o1, o2⟩ := hob.facts
  have HSZ1 : Hid (w.heap.size + 2 ≤ w1.heap.size) := by have := hb.size; show _ ≤ _; omega
  have HB1 := Lib.hid ((w0_below w 3 key val).trans (hb.mono (by omega)))
  have HAB1 := Lib.hid hab
  clear hb hab hob hsz
  go_wp2_with fail
  refine (Without_any A n c l key _ (H.out.below HB1.out) (by omega)).mono ?_
  rintro e w2 ⟨v2, rfl, hown, hb⟩
  obtain ⟨A2, c2, rfl, hps, hfr⟩ := hown.ps
  have HB2 := Lib.hid (below_next HB1.out hb)
  have HFR : Hid (∀ ad, A2 = some ad → w.heap.size + 2 ≤ ad.block) := fun ad h => by have := hfr ad h; have := HSZ1.out; omega
  have HPS := Lib.hid hps
  obtain ⟨⟨a0, a1, a2, a3⟩, f0, f1, f2, f3⟩ := (HAB1.out.below hb (by have := HSZ1.out; omega)).facts
  generalize (wo l key).length = n2 at *
  clear hb hps hfr hown o0 o1 o2
  go_wp2
  refine bodyPost_ret (v := .tuple #[.slice A2 n2 c2, anV ⟨0, 0, g.getD 0, g.isSome⟩]) (by simp [results, Tryd.results34, go_sem, a0, a1, a2, a3]) rfl ?_
  rw [HF.out.1]
  exact retD_new (HPS.out.st4 (fun ad h => by have := HFR.out ad h; omega) _ _ _ _) (below_st4 HB2.out (by simp) _ _ _ _) HF.out.2 (fun ad h => by have := HFR.out ad h; omega)

set_option maxRecDepth 100000 in
set_option maxHeartbeats 2000000 in
theorem Done_1full (A : Option Addr) (n c : Nat) (l : PL) (key val : Int) (w : World) (h : PS w A n c l) (hc : chk l = 0) (hk2 : keyB key = true) (hg : getR key l = none) (hfull : n = 200) :
    Calls Tryd.prog 34 #[.slice A n c, .agg #[I 1, I key, I val]] w (RetD A n (doL l 1 key val) (doA l 1 key) w) := by
  have hn : n ≤ 200 := by have := chk_len hc; rw [h.len] at this; exact this
  have hs := ((chk_zero l).1 hc).2
  have H := Lib.hid h
  have Hlen := Lib.hid h.len
  clear h
  have HHV : Hid (hasV l key = 0) := by show _ = _; rw [hasV_eq hs, hg]; rfl
  have HHI : Hid (hasI l key = false) := by show _ = _; rw [hasI_eq hs, hg]; rfl
  have HBK : Hid (btwB key 0 1000000 = true) := hk2
  have hk0 : 0 ≤ key := by simp [keyB] at hk2; omega
  have hk1 : key ≤ 1000000 := by simp [keyB] at hk2; omega
  have HF : Hid (doL l 1 key val = l ∧ doA l 1 key = ⟨2, 0, 0, false⟩) := by
    show _ ∧ _
    rw [doL_put hc, doA_put hc, hk2, if_pos rfl, if_pos rfl, putL_eq, putA_eq, hg, Hlen.out]
    simp [hfull]
  have hne : ((n : Int) == 200) = true := by simp [hfull]
  clear hc hs hg hk2 hfull
  go_enter Tryd.func34, Tryd.ntmps34
  go_wp2_with fail
  refine (Between_t _ _ _ _ (by decide)).mono ?_
  rintro e w' ⟨rfl, rfl⟩
  go_wp2_with fail
  refine (Between_t _ _ _ _ HBK.out).mono ?_
  rintro e w' ⟨rfl, rfl⟩
  go_wp2_with fail
  refine (Has_any A n c l key _ (H.out.below (w0_below w 1 key val)) (by omega)).mono ?_
  rintro e w1 ⟨rfl, hb⟩
  rw [HHV.out, HHI.out]
  have hsz := w0_size w 1 key val
  have hab : AB w1 (w.heap.size + 1) := (w0_ab w 1 key val).below hb (by omega)
  have hob : OB w1 w.heap.size 1 key val := (w0_ob w 1 key val).below hb (by omega)
  obtain ⟨o0, o1, o2⟩ := hob.facts
  have HSZ1 : Hid (w.heap.size + 2 ≤ w1.heap.size) := by have := hb.size; show _ ≤ _; omega
  have HB1 := Lib.hid ((w0_below w 1 key val).trans (hb.mono (by omega)))
  have HAB1 := Lib.hid hab
  clear hb hab hob hsz
  obtain ⟨⟨a0, a1, a2, a3⟩, f0, f1, f2, f3⟩ := HAB1.out.facts
  go_wp2
  refine bodyPost_ret (v := .tuple #[.slice A n c, anV ⟨2, 0, 0, false⟩]) (by simp [results, Tryd.results34, go_sem, a0, a1, a2, a3]) rfl ?_
  exact retD_same H.out HF.out.1 (below_st4 HB1.out (by simp) _ _ _ _) HF.out.2

set_option maxRecDepth 100000 in
set_option maxHeartbeats 2000000 in
theorem Done_1 (A : Option Addr) (n c : Nat) (l : PL) (key val : Int) (w : World) (h : PS w A n c l) (hc : chk l = 0) (hk2 : keyB key = true) (hr : (getR key l).isSome = true ∨ n < 200) :
    Calls Tryd.prog 34 #[.slice A n c, .agg #[I 1, I key, I val]] w (RetD A n (doL l 1 key val) (doA l 1 key) w) := by
  have hn : n ≤ 200 := by have := chk_len hc; rw [h.len] at this; exact this
  have hs := ((chk_zero l).1 hc).2
  have H := Lib.hid h
  have Hlen := Lib.hid h.len
  clear h
  obtain ⟨g, hg⟩ : ∃ g, getR key l = g := ⟨_, rfl⟩
  have HHV : Hid (hasV l key = g.getD 0) := by show _ = _; rw [hasV_eq hs, hg]
  have HHI : Hid (hasI l key = g.isSome) := by show _ = _; rw [hasI_eq hs, hg]
  have HBK : Hid (btwB key 0 1000000 = true) := hk2
  have hk0 : 0 ≤ key := by simp [keyB] at hk2; omega
  have hk1 : key ≤ 1000000 := by simp [keyB] at hk2; omega
  have HF : Hid (doL l 1 key val = wiL l key val ∧ doA l 1 key = ⟨0, 0, 0, g.isSome⟩) := by
    show _ ∧ _
    have hr' : (getR key l).isSome ∨ l.length < 200 := by rw [Hlen.out]; exact hr
    rw [doL_put hc, doA_put hc, hk2, if_pos rfl, if_pos rfl, putL_eq, putA_eq, if_pos hr', wiL_eq hs]
    refine ⟨rfl, ?_⟩
    cases hgs : g with
    | none =>
      have h200 : n < 200 := by
        rcases hr with h1 | h1
        · rw [hg, hgs] at h1; cases h1
        · exact h1
      rw [hg, hgs, Hlen.out, if_neg (by simp), if_neg (by omega)]
      rfl
    | some x => rw [hg, hgs]; rfl
  rw [hg] at hr
  clear hc hs hg hk2
  go_enter Tryd.func34, Tryd.ntmps34
  go_wp2_with fail
  refine (Between_t _ _ _ _ (by decide)).mono ?_
  rintro e w' ⟨rfl, rfl⟩
  go_wp2_with fail
  refine (Between_t _ _ _ _ HBK.out).mono ?_
  rintro e w' ⟨rfl, rfl⟩
  go_wp2_with fail
  refine (Has_any A n c l key _ (H.out.below (w0_below w 1 key val)) (by omega)).mono ?_
  rintro e w1 ⟨rfl, hb⟩
  rw [HHV.out, HHI.out]
  have hsz := w0_size w 1 key val
  have hab : AB w1 (w.heap.size + 1) := (w0_ab w 1 key val).below hb (by omega)
  have hob : OB w1 w.heap.size 1 key val := (w0_ob w 1 key val).below hb (by omega)
  obtain ⟨o0, o1, o2⟩ := hob.facts
  have HSZ1 : Hid (w.heap.size + 2 ≤ w1.heap.size) := by have := hb.size; show _ ≤ _; omega
  have HB1 := Lib.hid ((w0_below w 1 key val).trans (hb.mono (by omega)))
  have HAB1 := Lib.hid hab
  clear hb hab hob hsz
  have hdec : (g.isSome = true) ∨ (g.isSome = false ∧ ((n : Int) == 200) = false) := by
    cases hgs : g.isSome with
    | true => exact .inl rfl
    | false =>
      rw [hgs] at hr
      have : n < 200 := by simpa using hr
      exact .inr ⟨rfl, by simp; omega⟩
  clear hr
  rcases hdec with hgs | ⟨hgs, hne⟩
  all_goals
    rw [hgs]
    go_wp2_with fail
    refine (With_any A n c l key val _ (H.out.below HB1.out) (by omega)).mono ?_
    rintro e w2 ⟨v2, rfl, hown, hb⟩
    obtain ⟨A2, c2, rfl, hps, hfr⟩ := hown.ps
    have HB2 := Lib.hid (below_next HB1.out hb)
    have HFR : Hid (∀ ad, A2 = some ad → w.heap.size + 2 ≤ ad.block) := fun ad h => by have := hfr ad h; have := HSZ1.out; omega
    have HPS := Lib.hid hps
    obtain ⟨⟨a0, a1, a2, a3⟩, f0, f1, f2, f3⟩ := (HAB1.out.below hb (by have := HSZ1.out; omega)).facts
    generalize (wiL l key val).length = n2 at *
    clear hb hps hfr hown o0 o1 o2
    go_wp2
    refine bodyPost_ret (v := .tuple #[.slice A2 n2 c2, anV ⟨0, 0, 0, _⟩]) (by simp [results, Tryd.results34, go_sem, a0, a1, a2, a3]; rfl) rfl ?_
    rw [HF.out.1]
    exact retD_new (HPS.out.st4 (fun ad h => by have := HFR.out ad h; omega) _ _ _ _) (below_st4 HB2.out (by simp) _ _ _ _) (by rw [HF.out.2, hgs]) (fun ad h => by have := HFR.out ad h; omega)

theorem Done_any (A : Option Addr) (n c : Nat) (l : PL) (kind key val : Int) (w : World) (h : PS w A n c l) (hc : chk l = 0) :
    Calls Tryd.prog 34 #[.slice A n c, .agg #[I kind, I key, I val]] w (RetD A n (doL l kind key val) (doA l kind key) w) := by
  have hn : n ≤ 200 := by have := chk_len hc; rw [h.len] at this; exact this
  cases hk2 : keyB key with
  | false =>
    rcases kinds kind with rfl | rfl | rfl | rfl | rfl | rfl | rfl | h8
    · exact Done_key A n c l 1 key val w h hc (by omega) hk2
    · exact Done_key A n c l 2 key val w h hc (by omega) hk2
    · exact Done_key A n c l 3 key val w h hc (by omega) hk2
    · exact Done_key A n c l 4 key val w h hc (by omega) hk2
    · exact Done_key A n c l 5 key val w h hc (by omega) hk2
    · exact Done_6 A n c l key val w h hc
    · exact Done_7 A n c l key val w h hc
    · exact Done_kind A n c l kind key val w h hc h8
  | true =>
    rcases kinds kind with rfl | rfl | rfl | rfl | rfl | rfl | rfl | h8
    · cases hg : getR key l with
      | some x => exact Done_1 A n c l key val w h hc hk2 (.inl (by rw [hg]; rfl))
      | none =>
        rcases Nat.lt_or_ge n 200 with h1 | h1
        · exact Done_1 A n c l key val w h hc hk2 (.inr h1)
        · exact Done_1full A n c l key val w h hc hk2 hg (by omega)
    · exact Done_2 A n c l key val w h hc hk2
    · exact Done_3 A n c l key val w h hc hk2
    · exact Done_4 A n c l key val w h hc hk2
    · exact Done_5 A n c l key val w h hc hk2
    · exact Done_6 A n c l key val w h hc
    · exact Done_7 A n c l key val w h hc
    · exact Done_kind A n c l kind key val w h hc h8

end Go.Proofs.YtolgncaaffmmnaaDoor
