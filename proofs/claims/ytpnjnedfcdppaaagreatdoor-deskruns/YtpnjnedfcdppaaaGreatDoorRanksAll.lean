/-
  Joined texts: YtpnjnedfcdppaaaGreatDoorDoAll, YtpnjnedfcdppaaaGreatDoorDoLook, YtpnjnedfcdppaaaGreatDoorRun, YtpnjnedfcdppaaaGreatDoorMaps, YtpnjnedfcdppaaaGreatDoorLives, YtpnjnedfcdppaaaGreatDoorSteps, YtpnjnedfcdppaaaGreatDoorRunC, YtpnjnedfcdppaaaGreatDoorGMaps, YtpnjnedfcdppaaaGreatDoorOMaps, YtpnjnedfcdppaaaGreatDoorRunA, YtpnjnedfcdppaaaGreatDoorRanks.
-/
import Derived.Test.YtpnjnedfcdppaaaGreatDoorLookAll
import Derived.Deep.RegionWith
import Derived.Test.YtpnjnedfcdppaaaGreatDoorSChkAll
import Derived.Test.YtpnjnedfcdppaaaGreatDoorOSpotsAll
/-
  Do.
-/
namespace Go.Proofs.YtpnjnedfcdppaaaGreatDoor
open Go.RowKit

def OB (w : World) (g : Nat) (kind key val : Int) : Prop := w.heap[g]? = some (.cells #[I kind, I key, I val] 69 (0, 0))
theorem OB.new (w : World) (kind key val : Int) : OB (w.alloc (.cells #[I kind, I key, I val] 69)) w.heap.size kind key val := heap_alloc_new w _
theorem OB.below {w w' : World} {g B : Nat} {kind key val : Int} (h : OB w g kind key val) (hb : Below B w w') (hg : g < B) : OB w' g kind key val := (hb.block g hg).trans h
theorem OB.facts {w : World} {g : Nat} {kind key val : Int} (h : OB w g kind key val) : w.cell? ⟨g, 0, none⟩ = some (I kind) ∧ w.cell? ⟨g, 1, none⟩ = some (I key) ∧ w.cell? ⟨g, 2, none⟩ = some (I val) := by
  unfold OB at h
  refine ⟨?_, ?_, ?_⟩ <;> simp [World.cell?, h]

theorem OB.far {w : World} {g : Nat} {kind key val : Int} (h : OB w g kind key val) {p : Addr} (hp : p.block ≠ g) (u : Value) : OB (w.setCell p u) g kind key val := (Below.heap_setCell w p u g (fun e => hp e.symm)).trans h
def doL (l : PL) (kind key val : Int) : PL := if chk l ≠ 0 then [] else if opB kind key = false then l else if kind = 1 then putL l key val else if kind = 3 then cutL l key else l
def doA (l : PL) (kind key : Int) : An := if chk l ≠ 0 then ⟨chk l, 0, 0, false⟩ else if opB kind key = false then ⟨1, 0, 0, false⟩ else if kind = 1 then putA l key else if kind = 3 then getA l key else lookA l kind key

theorem chk_len {l : PL} (h : chk l = 0) : l.length ≤ 200 := by
  unfold chk at h
  split at h
  · omega
  · omega

theorem isOp_t (kind key val : Int) (w : World) (h : opB kind key = true) : Calls Tryz.prog 122 #[.agg #[I kind, I key, I val]] w fun e w' => e = .returned (.bool true) ∧ Below w.heap.size w w' :=
  (isOp_any kind key val w).mono fun _ _ ⟨he, hw⟩ => ⟨by rw [he, h], hw⟩
theorem isOp_f (kind key val : Int) (w : World) (h : opB kind key = false) : Calls Tryz.prog 122 #[.agg #[I kind, I key, I val]] w fun e w' => e = .returned (.bool false) ∧ Below w.heap.size w w' :=
  (isOp_any kind key val w).mono fun _ _ ⟨he, hw⟩ => ⟨by rw [he, h], hw⟩
theorem Check_is (A : Option Addr) (n c : Nat) (l : PL) (w : World) (h : PS w A n c l) (hn : n ≤ 9223372036854775807) (E : Int) (hE : chk l = E) :
    Calls Tryz.prog 121 #[.slice A n c] w fun e w' => e = .returned (I E) ∧ Below w.heap.size w w' :=
  (Check_any A n c l w h hn).mono fun _ _ ⟨he, hw⟩ => ⟨by rw [he, hE], hw⟩

abbrev w0 (w : World) (kind key val : Int) : World := (w.alloc (.cells #[I kind, I key, I val] 69)).alloc ansO
theorem w0_below (w : World) (kind key val : Int) : Below w.heap.size w (w0 w kind key val) := ((Below.refl _ _).alloc (Nat.le_refl _) _).alloc (by simp) _
theorem w0_size (w : World) (kind key val : Int) : (w0 w kind key val).heap.size = w.heap.size + 2 := by simp
theorem w0_ab (w : World) (kind key val : Int) : AB (w0 w kind key val) (w.heap.size + 1) := by simpa using AB.new (w.alloc (.cells #[I kind, I key, I val] 69))
theorem w0_ob (w : World) (kind key val : Int) : OB (w0 w kind key val) w.heap.size kind key val :=
  (OB.new w kind key val).below (B := w.heap.size + 1) ((Below.refl _ _).alloc (by simp) _) (by omega)

set_option maxRecDepth 100000 in
set_option maxHeartbeats 1000000 in
theorem Do_bad (A : Option Addr) (n c : Nat) (l : PL) (kind key val : Int) (w : World) (h : PS w A n c l) (hn : n ≤ 9223372036854775807) (hc : chk l ≠ 0) :
    Calls Tryz.prog 58 #[.slice A n c, .agg #[I kind, I key, I val]] w (RetPA (doL l kind key val) (doA l kind key) w) := by
  have H := Lib.hid h
  clear h
  have HF : Hid (doL l kind key val = [] ∧ doA l kind key = ⟨chk l, 0, 0, false⟩) := by show _ ∧ _; simp [doL, doA, hc]
  have hne : (chk l != 0) = true := by simpa using hc
  clear hc
  generalize hE : chk l = E at *
  have HE := Lib.hid hE
  clear hE
  go_enter Tryz.func58, Tryz.ntmps58
  go_wp2_with fail
  refine (Check_is A n c l _ (H.out.below (w0_below w kind key val)) hn E HE.out).mono ?_
  rintro e w2 ⟨rfl, hb⟩
  have hsz := w0_size w kind key val
  have hab : AB w2 (w.heap.size + 1) := (w0_ab w kind key val).below hb (by omega)
  obtain ⟨⟨a0, a1, a2, a3⟩, f0, f1, f2, f3⟩ := hab.facts
  have HB2 := Lib.hid ((w0_below w kind key val).trans (hb.mono (by omega)))
  clear hb hab hsz
  go_wp2
  refine bodyPost_ret (v := .tuple #[.slice none 0 0, anV ⟨E, 0, 0, false⟩]) (by simp [results, Tryz.results58, go_sem, a0, a1, a2, a3]) rfl ?_
  rw [HF.out.1]
  exact retPA_mk ⟨rfl, Rd.none_⟩ (below_st4 HB2.out (by simp) _ _ _ _) HF.out.2 (fun ad h => by cases h)

set_option maxRecDepth 100000 in
set_option maxHeartbeats 1000000 in
theorem Do_noop (A : Option Addr) (n c : Nat) (l : PL) (kind key val : Int) (w : World) (h : PS w A n c l) (hc : chk l = 0) (ho : opB kind key = false) :
    Calls Tryz.prog 58 #[.slice A n c, .agg #[I kind, I key, I val]] w (RetPA (doL l kind key val) (doA l kind key) w) := by
  have hn : n ≤ 200 := by have := chk_len hc; rw [h.len] at this; exact this
  have H := Lib.hid h
  clear h
  have HF : Hid (doL l kind key val = l ∧ doA l kind key = ⟨1, 0, 0, false⟩) := by show _ ∧ _; simp [doL, doA, hc, ho]
  have HE := Lib.hid hc
  have HO := Lib.hid ho
  clear hc ho
  go_enter Tryz.func58, Tryz.ntmps58
  go_wp2_with fail
  refine (Check_is A n c l _ (H.out.below (w0_below w kind key val)) (by omega) 0 HE.out).mono ?_
  rintro e w2 ⟨rfl, hb⟩
  have hsz := w0_size w kind key val
  have hab : AB w2 (w.heap.size + 1) := (w0_ab w kind key val).below hb (by omega)
  have hob : OB w2 w.heap.size kind key val := (w0_ob w kind key val).below hb (by omega)
  have hbw : Below w.heap.size w w2 := (w0_below w kind key val).trans (hb.mono (by omega))
  obtain ⟨o0, o1, o2⟩ := hob.facts
  have HSZ : Hid (w.heap.size + 2 ≤ w2.heap.size) := by have := hb.size; show _ ≤ _; omega
  have HAB := Lib.hid hab
  have HB2 := Lib.hid hbw
  clear hb hab hsz hob hbw
  go_wp2_with fail
  refine (isOp_f kind key val _ HO.out).mono ?_
  rintro e w3 ⟨rfl, hb⟩
  have hab : AB w3 (w.heap.size + 1) := HAB.out.below hb (by have := HSZ.out; omega)
  have hbw : Below w.heap.size w w3 := HB2.out.trans (hb.mono (by have := HSZ.out; omega))
  have HSZ3 : Hid (w.heap.size + 2 ≤ w3.heap.size) := by have := hb.size; have := HSZ.out; show _ ≤ _; omega
  have HAB3 := Lib.hid hab
  have HB3 := Lib.hid hbw
  clear hb hab hbw o0 o1 o2
  go_wp2_with fail
  refine (copyOf_any _ n c l _ (H.out.below HB3.out) (by omega)).mono ?_
  rintro e w4 ⟨rfl, hpb, hb⟩
  have hab : AB w4 (w.heap.size + 1) := HAB3.out.below hb (by have := HSZ3.out; omega)
  obtain ⟨⟨a0, a1, a2, a3⟩, f0, f1, f2, f3⟩ := hab.facts
  have HB4 := Lib.hid (HB3.out.trans (hb.mono (by have := HSZ3.out; omega)))
  have HP := Lib.hid hpb
  clear hb hab hpb
  go_wp2
  refine bodyPost_ret (v := .tuple #[.slice (some ⟨w3.heap.size, 0, none⟩) n n, anV ⟨1, 0, 0, false⟩]) (by simp [results, Tryz.results58, go_sem, a0, a1, a2, a3]) rfl ?_
  have hp := (HP.out.st4 (g' := w.heap.size + 1) (by have := HSZ3.out; omega) 1 0 0 false).ps (c := n) (by rw [H.out.len]; exact Nat.le_refl _)
  rw [H.out.len] at hp
  rw [HF.out.1]
  exact retPA_mk hp (below_st4 HB4.out (by simp) _ _ _ _) HF.out.2 (fun ad h => by cases h; have := HSZ3.out; show w.heap.size ≤ w3.heap.size; omega)

set_option maxRecDepth 100000 in
set_option maxHeartbeats 1000000 in
theorem Do_put (A : Option Addr) (n c : Nat) (l : PL) (key val : Int) (w : World) (h : PS w A n c l) (hc : chk l = 0) (ho : opB 1 key = true) :
    Calls Tryz.prog 58 #[.slice A n c, .agg #[I 1, I key, I val]] w (RetPA (doL l 1 key val) (doA l 1 key) w) := by
  have hn : n ≤ 200 := by have := chk_len hc; rw [h.len] at this; exact this
  have H := Lib.hid h
  clear h
  have HF : Hid (doL l 1 key val = putL l key val ∧ doA l 1 key = putA l key) := by show _ ∧ _; simp [doL, doA, hc, ho]
  have HE := Lib.hid hc
  have HO := Lib.hid ho
  clear hc ho
  go_enter Tryz.func58, Tryz.ntmps58
  go_wp2_with fail
  refine (Check_is A n c l _ (H.out.below (w0_below w 1 key val)) (by omega) 0 HE.out).mono ?_
  rintro e w2 ⟨rfl, hb⟩
  have hsz := w0_size w 1 key val
  have hab : AB w2 (w.heap.size + 1) := (w0_ab w 1 key val).below hb (by omega)
  have hob : OB w2 w.heap.size 1 key val := (w0_ob w 1 key val).below hb (by omega)
  have hbw : Below w.heap.size w w2 := (w0_below w 1 key val).trans (hb.mono (by omega))
  obtain ⟨o0, o1, o2⟩ := hob.facts
  have HSZ : Hid (w.heap.size + 2 ≤ w2.heap.size) := by have := hb.size; show _ ≤ _; omega
  have HAB := Lib.hid hab
  have HOB := Lib.hid hob
  have HB2 := Lib.hid hbw
  clear hb hab hsz hob hbw
  go_wp2_with fail
  refine (isOp_t 1 key val _ HO.out).mono ?_
  rintro e w3 ⟨rfl, hb⟩
  have hab : AB w3 (w.heap.size + 1) := HAB.out.below hb (by have := HSZ.out; omega)
  have hob : OB w3 w.heap.size 1 key val := HOB.out.below hb (by have := HSZ.out; omega)
  have hbw : Below w.heap.size w w3 := HB2.out.trans (hb.mono (by have := HSZ.out; omega))
  have HSZ3 : Hid (w.heap.size + 2 ≤ w3.heap.size) := by have := hb.size; have := HSZ.out; show _ ≤ _; omega
  have HAB3 := Lib.hid hab
  have HOB3 := Lib.hid hob
  have HB3 := Lib.hid hbw
  clear o0 o1 o2
  obtain ⟨o0, o1, o2⟩ := hob.facts
  clear hb hab hob hbw
  go_wp2_with fail
  refine (put_any _ n c l key val _ (H.out.below HB3.out) hn).mono ?_
  rintro e w4 ⟨A', n', c', rfl, hps, hb, hA⟩
  have hab : AB w4 (w.heap.size + 1) := HAB3.out.below hb (by have := HSZ3.out; omega)
  obtain ⟨⟨a0, a1, a2, a3⟩, f0, f1, f2, f3⟩ := hab.facts
  have HB4 := Lib.hid (HB3.out.trans (hb.mono (by have := HSZ3.out; omega)))
  have HP := Lib.hid hps
  have HA := Lib.hid hA
  clear hb hab hps hA
  go_wp2
  refine bodyPost_ret (v := .tuple #[.slice A' n' c', anV (putA l key)]) (by simp [results, Tryz.results58, go_sem, a0, a1, a2, a3]) rfl ?_
  rw [HF.out.1]
  refine retPA_mk (e := (putA l key).e) (HP.out.st4 (fun ad h => ?_) _ _ _ _) (below_st4 HB4.out (by simp) _ _ _ _) HF.out.2 (fun ad h => ?_)
  · have := HA.out ad h; have := HSZ3.out; omega
  · have := HA.out ad h; have := HSZ3.out; omega

set_option maxRecDepth 100000 in
set_option maxHeartbeats 1000000 in
theorem Do_cut (A : Option Addr) (n c : Nat) (l : PL) (key val : Int) (w : World) (h : PS w A n c l) (hc : chk l = 0) (ho : opB 3 key = true) :
    Calls Tryz.prog 58 #[.slice A n c, .agg #[I 3, I key, I val]] w (RetPA (doL l 3 key val) (doA l 3 key) w) := by
  have hn : n ≤ 200 := by have := chk_len hc; rw [h.len] at this; exact this
  have H := Lib.hid h
  clear h
  have HF : Hid (doL l 3 key val = cutL l key ∧ doA l 3 key = getA l key) := by show _ ∧ _; simp [doL, doA, hc, ho]
  have HE := Lib.hid hc
  have HO := Lib.hid ho
  clear hc ho
  go_enter Tryz.func58, Tryz.ntmps58
  go_wp2_with fail
  refine (Check_is A n c l _ (H.out.below (w0_below w 3 key val)) (by omega) 0 HE.out).mono ?_
  rintro e w2 ⟨rfl, hb⟩
  have hsz := w0_size w 3 key val
  have hab : AB w2 (w.heap.size + 1) := (w0_ab w 3 key val).below hb (by omega)
  have hob : OB w2 w.heap.size 3 key val := (w0_ob w 3 key val).below hb (by omega)
  have hbw : Below w.heap.size w w2 := (w0_below w 3 key val).trans (hb.mono (by omega))
  obtain ⟨o0, o1, o2⟩ := hob.facts
  have HSZ : Hid (w.heap.size + 2 ≤ w2.heap.size) := by have := hb.size; show _ ≤ _; omega
  have HAB := Lib.hid hab
  have HOB := Lib.hid hob
  have HB2 := Lib.hid hbw
  clear hb hab hsz hob hbw
  go_wp2_with fail
  refine (isOp_t 3 key val _ HO.out).mono ?_
  rintro e w3 ⟨rfl, hb⟩
  have hab : AB w3 (w.heap.size + 1) := HAB.out.below hb (by have := HSZ.out; omega)
  have hob : OB w3 w.heap.size 3 key val := HOB.out.below hb (by have := HSZ.out; omega)
  have hbw : Below w.heap.size w w3 := HB2.out.trans (hb.mono (by have := HSZ.out; omega))
  have HSZ3 : Hid (w.heap.size + 2 ≤ w3.heap.size) := by have := hb.size; have := HSZ.out; show _ ≤ _; omega
  have HAB3 := Lib.hid hab
  have HOB3 := Lib.hid hob
  have HB3 := Lib.hid hbw
  clear o0 o1 o2
  obtain ⟨o0, o1, o2⟩ := hob.facts
  clear hb hab hob hbw
  go_wp2_with fail
  refine (cut_any _ n c l key _ (H.out.below HB3.out) hn).mono ?_
  rintro e w4 ⟨A', n', c', rfl, hps, hb, hA⟩
  have hab : AB w4 (w.heap.size + 1) := HAB3.out.below hb (by have := HSZ3.out; omega)
  obtain ⟨⟨a0, a1, a2, a3⟩, f0, f1, f2, f3⟩ := hab.facts
  have HB4 := Lib.hid (HB3.out.trans (hb.mono (by have := HSZ3.out; omega)))
  have HP := Lib.hid hps
  have HA := Lib.hid hA
  clear hb hab hps hA
  go_wp2
  refine bodyPost_ret (v := .tuple #[.slice A' n' c', anV (getA l key)]) (by simp [results, Tryz.results58, go_sem, a0, a1, a2, a3]) rfl ?_
  rw [HF.out.1]
  refine retPA_mk (e := (getA l key).e) (HP.out.st4 (fun ad h => ?_) _ _ _ _) (below_st4 HB4.out (by simp) _ _ _ _) HF.out.2 (fun ad h => ?_)
  · have := HA.out ad h; have := HSZ3.out; omega
  · have := HA.out ad h; have := HSZ3.out; omega

end Go.Proofs.YtpnjnedfcdppaaaGreatDoor

/-
  Do where nothing changes; Do whole.
-/
namespace Go.Proofs.YtpnjnedfcdppaaaGreatDoor
open Go.RowKit

set_option maxRecDepth 100000 in
set_option maxHeartbeats 1000000 in
theorem Do_look (A : Option Addr) (n c : Nat) (l : PL) (kind key val : Int) (w : World) (h : PS w A n c l) (hc : chk l = 0) (ho : opB kind key = true) (h1 : kind ≠ 1) (h3 : kind ≠ 3) :
    Calls Tryz.prog 58 #[.slice A n c, .agg #[I kind, I key, I val]] w (RetPA (doL l kind key val) (doA l kind key) w) := by
  have hn : n ≤ 200 := by have := chk_len hc; rw [h.len] at this; exact this
  have H := Lib.hid h
  clear h
  have HF : Hid (doL l kind key val = l ∧ doA l kind key = lookA l kind key) := by show _ ∧ _; simp [doL, doA, hc, ho, h1, h3]
  have HE := Lib.hid hc
  have HO := Lib.hid ho
  clear hc ho
  go_enter Tryz.func58, Tryz.ntmps58
  go_wp2_with fail
  refine (Check_is A n c l _ (H.out.below (w0_below w kind key val)) (by omega) 0 HE.out).mono ?_
  rintro e w2 ⟨rfl, hb⟩
  have hsz := w0_size w kind key val
  have hab : AB w2 (w.heap.size + 1) := (w0_ab w kind key val).below hb (by omega)
  have hob : OB w2 w.heap.size kind key val := (w0_ob w kind key val).below hb (by omega)
  have hbw : Below w.heap.size w w2 := (w0_below w kind key val).trans (hb.mono (by omega))
  obtain ⟨o0, o1, o2⟩ := hob.facts
  have HSZ : Hid (w.heap.size + 2 ≤ w2.heap.size) := by have := hb.size; show _ ≤ _; omega
  have HAB := Lib.hid hab
  have HOB := Lib.hid hob
  have HB2 := Lib.hid hbw
  clear hb hab hsz hob hbw
  go_wp2_with fail
  refine (isOp_t kind key val _ HO.out).mono ?_
  rintro e w3 ⟨rfl, hb⟩
  have hab : AB w3 (w.heap.size + 1) := HAB.out.below hb (by have := HSZ.out; omega)
  have hob : OB w3 w.heap.size kind key val := HOB.out.below hb (by have := HSZ.out; omega)
  have hbw : Below w.heap.size w w3 := HB2.out.trans (hb.mono (by have := HSZ.out; omega))
  have HSZ3 : Hid (w.heap.size + 2 ≤ w3.heap.size) := by have := hb.size; have := HSZ.out; show _ ≤ _; omega
  have HAB3 := Lib.hid hab
  have HOB3 := Lib.hid hob
  have HB3 := Lib.hid hbw
  clear o0 o1 o2
  obtain ⟨o0, o1, o2⟩ := hob.facts
  clear hb hab hob hbw
  have g1 : (kind == 1) = false := beq_eq_false_iff_ne.2 h1
  have g3 : (kind == 3) = false := beq_eq_false_iff_ne.2 h3
  have hk : (0 ≤ key ∧ key ≤ 1000000) ∨ (kind = 6 ∨ kind = 7) := by
    have := HO.out
    unfold opB at this
    split at this
    · left; simpa [keyB] using this
    · right; simpa using this
  have HK := Lib.hid hk
  clear h1 h3 hk
  go_wp2
  have hs0 : PS w3.drew A n c l := (H.out.below HB3.out).drew
  have HS0 := Lib.hid hs0
  clear hs0
  go_region_with
    (first
      | (go_at_call 123
         refine (copyOf_any _ n c l _ HS0.out (by omega)).mono ?_
         rintro e w4 ⟨rfl, hpb, hb⟩
         have hab4 : AB w4 (w.heap.size + 1) := AB.below (w := w3.drew) HAB3.out hb (by have := HSZ3.out; show w.heap.size + 1 < w3.heap.size; omega)
         have hob4 : OB w4 w.heap.size kind key val := OB.below (w := w3.drew) HOB3.out hb (by have := HSZ3.out; show w.heap.size < w3.heap.size; omega)
         have hbw4 : Below w.heap.size w w4 := HB3.out.drew.trans (hb.mono (by have := HSZ3.out; show w.heap.size ≤ w3.heap.size; omega))
         obtain ⟨q0, q1, q2⟩ := hob4.facts
         have HP4 := Lib.hid hpb
         have HAB4 := Lib.hid hab4
         have HB4 := Lib.hid hbw4
         have HSZ4 : Hid (w3.heap.size < w4.heap.size) := hpb.lt
         have HOB4 := Lib.hid hob4
         clear hab4 hob4 hbw4 hpb hb)
      | (go_at_call 126
         refine (look_any _ n c l kind key val _ (H.out.below HB4.out) hn HK.out).mono ?_
         rintro e w5 ⟨rfl, hb⟩
         have hab5 : AB w5 (w.heap.size + 1) := HAB4.out.below hb (by have := HSZ3.out; have := HSZ4.out; omega)
         have hp5 : PB w5 w3.heap.size 48 l := HP4.out.below hb HSZ4.out
         have hbw5 : Below w.heap.size w w5 := HB4.out.trans (hb.mono (by have := HSZ3.out; have := HSZ4.out; omega))
         obtain ⟨⟨a0, a1, a2, a3⟩, f0, f1, f2, f3⟩ := hab5.facts
         have HOB5 := Lib.hid (HOB4.out.below hb (by have := HSZ3.out; have := HSZ4.out; omega))
         obtain ⟨r0, r1, r2⟩ := HOB5.out.facts
         have HP5 := Lib.hid hp5
         have HB5 := Lib.hid hbw5
         clear hab5 hbw5 hp5 hb))
  all_goals
    go_wp2
    refine bodyPost_ret (v := .tuple #[.slice (some ⟨w3.heap.size, 0, none⟩) n n, anV (lookA l kind key)]) (by simp [results, Tryz.results58, go_sem, a0, a1, a2, a3]) rfl ?_
    have hp := (HP5.out.st4 (g' := w.heap.size + 1) (by have := HSZ3.out; omega) (lookA l kind key).e (lookA l kind key).k (lookA l kind key).v (lookA l kind key).b).ps (c := n) (by rw [H.out.len]; exact Nat.le_refl _)
    rw [H.out.len] at hp
    rw [HF.out.1]
    exact retPA_mk hp (below_st4 HB5.out (by simp) _ _ _ _) HF.out.2 (fun ad h => by cases h; have := HSZ3.out; show w.heap.size ≤ w3.heap.size; omega)

theorem Do_any (A : Option Addr) (n c : Nat) (l : PL) (kind key val : Int) (w : World) (h : PS w A n c l) (hn : n ≤ 9223372036854775807) :
    Calls Tryz.prog 58 #[.slice A n c, .agg #[I kind, I key, I val]] w (RetPA (doL l kind key val) (doA l kind key) w) := by
  by_cases hc : chk l = 0
  · cases ho : opB kind key with
    | false => exact Do_noop A n c l kind key val w h hc ho
    | true =>
      by_cases h1 : kind = 1
      · subst h1; exact Do_put A n c l key val w h hc ho
      · by_cases h3 : kind = 3
        · subst h3; exact Do_cut A n c l key val w h hc ho
        · exact Do_look A n c l kind key val w h hc ho h1 h3
  · exact Do_bad A n c l kind key val w h hn hc

end Go.Proofs.YtpnjnedfcdppaaaGreatDoor

/-
  Run.
-/
namespace Go.Proofs.YtpnjnedfcdppaaaGreatDoor
open Go.RowKit

theorem doL_len (l : PL) (kind key val : Int) : (doL l kind key val).length ≤ 200 := by
  unfold doL
  by_cases hc : chk l = 0
  · have h2 := chk_len hc
    rw [if_neg (by simpa using hc)]
    split
    · exact h2
    · split
      · unfold putL
        split
        · simpa using h2
        · split
          · exact h2
          · have := cnt_le l key
            simp
            omega
      · split
        · unfold cutL
          split
          · simp
            omega
          · exact h2
        · exact h2
  · rw [if_pos hc]; simp

def stepR (s : PL × List An) (o : OP) : PL × List An := (doL s.1 o.1 o.2.1 o.2.2, s.2 ++ [doA s.1 o.1 o.2.1])
def runR (ops : List OP) : PL × List An := ops.foldl stepR ([], [])
theorem runR_succ (ops : List OP) (k : Nat) (h : k < ops.length) : runR (ops.take (k + 1)) = stepR (runR (ops.take k)) ops[k] := by
  rw [List.take_succ_eq_append_getElem h, runR, List.foldl_append]
  rfl
theorem runR_len (ops : List OP) : (runR ops).2.length = ops.length := by
  have h : ∀ (s : PL × List An), (ops.foldl stepR s).2.length = s.2.length + ops.length := by
    induction ops with
    | nil => intro s; simp
    | cons o t ih => intro s; rw [List.foldl_cons, ih]; simp [stepR]; omega
  simpa [runR] using h ([], [])

theorem ans_info : (Tryz.prog.info? 51).map (fun i => (i.zero, i.size, i.bytes)) = some (some (.agg #[I 0, I 0, I 0, .bool false]), 4, 32) := by kernel_rfl

def ansTo (ops : List OP) (k : Nat) : List An := (runR (ops.take k)).2 ++ List.replicate (ops.length - k) an0
theorem ansTo_len (ops : List OP) (k : Nat) (h : k ≤ ops.length) : (ansTo ops k).length = ops.length := by
  simp [ansTo, runR_len]; omega
theorem ansTo_succ (ops : List OP) (k : Nat) (h : k < ops.length) : (ansTo ops k).set k (doA (runR (ops.take k)).1 ops[k].1 ops[k].2.1) = ansTo ops (k + 1) := by
  unfold ansTo
  have hl : (runR (ops.take k)).2.length = k := by simp [runR_len]; omega
  rw [List.set_append_right _ _ (by omega), hl, Nat.sub_self, show ops.length - k = ops.length - (k + 1) + 1 by omega, List.replicate_succ, List.set_cons_zero, runR_succ ops k h]
  simp [stepR]

def Own5 (B : Nat) (w : World) (l : PL) (v : Value) : Prop := ∃ A n c, v = .slice A n c ∧ PS w A n c l ∧ ∀ ad, A = some ad → B ≤ ad.block
def RetRun (l : PL) (a : List An) (er : Int) (w : World) (e : Ending) (w' : World) : Prop :=
  ∃ A n c A' n' c', e = .returned (.tuple #[.slice A n c, .slice A' n' c', I er]) ∧ PS w' A n c l ∧ AS w' A' n' c' a ∧ Below w.heap.size w w'

set_option maxRecDepth 100000 in
set_option maxHeartbeats 1000000 in
theorem Run_any (A : Option Addr) (n c : Nat) (ops : List OP) (w : World) (h : OS w A n c ops) (hn : n ≤ 300) :
    Calls Tryz.prog 19 #[.slice A n c] w (RetRun (runR ops).1 (runR ops).2 0 w) := by
  have hmk := fun W => run_makeA (P := Tryz.prog) 34 51 Tryz.underlying34 ans_info n (by omega) W
  have H := Lib.hid h
  have Hlen := Lib.hid h.len
  clear h
  have hb0 : Below w.heap.size w (w.alloc (.cells (flatA (List.replicate n an0)).toArray 51)) := (Below.refl _ _).alloc (Nat.le_refl _) _
  have hq0 : QB (w.alloc (.cells (flatA (List.replicate n an0)).toArray 51)) w.heap.size 51 (ansTo ops 0) := by
    have : ansTo ops 0 = List.replicate n an0 := by simp [ansTo, runR, Hlen.out]
    rw [this]
    exact QB.new _ _ _
  have HB0 := Lib.hid hb0
  have HQ0 := Lib.hid hq0
  clear hb0 hq0
  go_enter Tryz.func19, Tryz.ntmps19
  go_wp2
  go_loopw [5, 17] (fun v i wr => ∃ k : Nat, k ≤ n ∧ i = .int .i64 k ∧ Own5 (w.heap.size + 1) wr (runR (ops.take k)).1 v ∧ QB wr w.heap.size 51 (ansTo ops k) ∧ Below w.heap.size w wr) (fun _ i _ => n - (intOf i).toNat)
  case atStart => exact ⟨0, Nat.zero_le _, rfl, ⟨none, 0, 0, rfl, ⟨by simp [runR], Rd.none_⟩, fun _ h => by cases h⟩, HQ0.out, HB0.out⟩
  case round =>
    obtain ⟨k, hk, rfl, ⟨A5, n5, c5, rfl, hps, hfr⟩, hq, hnx⟩ := hrel
    have hsz := hnx.size
    have hqlt := hq.lt
    by_cases hlt : k < n
    · obtain ⟨b, off, rfl, hb, hc⟩ := H.out.at_ (by omega)
      have hkl : k < ops.length := by have := Hlen.out; omega
      have hc0 : wr.cell? ⟨b, off + k * 3, none⟩ = some (I ops[k].1) := (hnx.cell (by exact hb)).trans (hc k hlt).1
      have hc1 : wr.cell? ⟨b, off + k * 3 + 1, none⟩ = some (I ops[k].2.1) := (hnx.cell (by exact hb)).trans (hc k hlt).2.1
      have hc2 : wr.cell? ⟨b, off + k * 3 + 2, none⟩ = some (I ops[k].2.2) := (hnx.cell (by exact hb)).trans (hc k hlt).2.2
      have HPS := Lib.hid hps
      have HFR := Lib.hid hfr
      have HQ := Lib.hid hq
      have HNX := Lib.hid hnx
      have HQL := Lib.hid hqlt
      have hn5 : n5 ≤ 200 := by
        have := hps.len
        rcases Nat.eq_zero_or_pos k with h0 | h0
        · subst h0; simp [runR] at this; omega
        · have e := runR_succ ops (k - 1) (by omega)
          rw [show k - 1 + 1 = k by omega] at e
          rw [e] at this
          have h3 := doL_len (runR (ops.take (k - 1))).1 (ops[k - 1]).1 (ops[k - 1]).2.1 (ops[k - 1]).2.2
          simp only [stepR] at this
          omega
      clear hc hps hfr hq hnx hmk hqlt
      go_wp2_with fail
      have hba : Below wr.heap.size wr (wr.alloc (.cells #[I ops[k].1, I ops[k].2.1, I ops[k].2.2] 69)) := (Below.refl _ _).alloc (Nat.le_refl _) _
      refine (Do_any A5 n5 c5 (runR (ops.take k)).1 ops[k].1 ops[k].2.1 ops[k].2.2 _ (HPS.out.below hba) (by omega)).mono ?_
      rintro e w2 ⟨A6, n6, c6, rfl, hps6, hb6, hfr6⟩
      have hbr : Below wr.heap.size wr w2 := hba.trans (hb6.mono (by simp))
      have hq2 : QB w2 w.heap.size 51 (ansTo ops k) := HQ.out.below hbr HQL.out
      have hal : k < (ansTo ops k).length := by rw [ansTo_len ops k (by omega)]; exact hkl
      have hcc := flatA_at (ansTo ops k) k hal
      have a0 := (hq2.cell _).trans hcc.1
      have a1 := (hq2.cell _).trans hcc.2.1
      have a2 := (hq2.cell _).trans hcc.2.2.1
      have a3 := (hq2.cell _).trans hcc.2.2.2
      have f0 := hq2.frozen (k * 4)
      have f1 := hq2.frozen (k * 4 + 1)
      have f2 := hq2.frozen (k * 4 + 2)
      have f3 := hq2.frozen (k * 4 + 3)
      have hset := hq2.set k (doA (runR (ops.take k)).1 ops[k].1 ops[k].2.1) hal
      rw [ansTo_succ ops k hkl] at hset
      have HSET := Lib.hid hset
      have hfr7 : ∀ ad, A6 = some ad → w.heap.size + 1 ≤ ad.block := fun ad h => by
        have h1 := hfr6 ad h
        have h2 := HQL.out
        simp at h1
        omega
      have HFR7 := Lib.hid hfr7
      have HP6 := Lib.hid hps6
      have HB2 := Lib.hid (HNX.out.trans (hbr.mono HNX.out.size))
      have hrs := runR_succ ops k hkl
      have HRS := Lib.hid hrs
      clear hba hb6 hfr6 hps6 hbr hq2 hcc hset hfr7 hrs
      go_wp2
      go_roundw
      case rel =>
        refine ⟨k + 1, by omega, by go_num, ⟨A6, n6, c6, rfl, ?_, HFR7.out⟩, HSET.out, ?_⟩
        · rw [HRS.out]
          have hA : ∀ ad, A6 = some ad → ad.block ≠ w.heap.size := fun ad h => by have := HFR7.out ad h; omega
          exact (((HP6.out.far (p := ⟨w.heap.size, k * 4, none⟩) hA _).far (p := ⟨w.heap.size, k * 4 + 1, none⟩) hA _).far (p := ⟨w.heap.size, k * 4 + 2, none⟩) hA _).far (p := ⟨w.heap.size, k * 4 + 3, none⟩) hA _
        · exact (((HB2.out.setCell (by simp) _).setCell (by simp) _).setCell (by simp) _).setCell (by simp) _
      case measure => simp [intOf]; omega
    · have hkn : k = n := by omega
      subst hkn
      have htk : ops.take k = ops := List.take_of_length_le (by have := Hlen.out; omega)
      have hat : ansTo ops k = (runR ops).2 := by unfold ansTo; rw [htk, Hlen.out]; simp
      rw [htk] at hps
      rw [hat] at hq
      have has := hq.as_ (c := k) (by rw [runR_len, Hlen.out]; exact Nat.le_refl _)
      rw [runR_len, Hlen.out] at has
      have HPS := Lib.hid hps
      have HAS := Lib.hid has
      have HNX := Lib.hid hnx
      clear hps has hnx hq hat htk hfr hqlt hmk
      go_wp2
      go_ret3
      exact ⟨_, _, _, _, _, _, rfl, HPS.out, HAS.out, HNX.out⟩

end Go.Proofs.YtpnjnedfcdppaaaGreatDoor

/-
  MAPS, PLAINLY: what put, cut, get and look come to, by recursion on the list; what holds of them. Lists alone.
-/
namespace Go.Proofs.YtpnjnedfcdppaaaGreatDoor

def Srt : Int → PL → Prop
  | _, [] => True
  | lo, p :: t => lo ≤ p.1 ∧ p.1 ≤ 1000000 ∧ Srt (p.1 + 1) t
theorem Srt.mono {l : PL} {a b : Int} (h : Srt b l) (hab : a ≤ b) : Srt a l := by
  cases l with
  | nil => trivial
  | cons p t => exact ⟨by have := h.1; omega, h.2⟩
theorem srt_iff_aux (l : PL) : ∀ lo : Int, Srt lo l ↔ (∀ i, i < l.length → ((l[i]?.getD (0, 0)).1 ≤ 1000000 ∧ (if i = 0 then lo else (l[i - 1]?.getD (0, 0)).1 + 1) ≤ (l[i]?.getD (0, 0)).1)) := by
  induction l with
  | nil => intro lo; simp [Srt]
  | cons p t ih =>
    intro lo
    rw [Srt, ih]
    constructor
    · rintro ⟨h1, h2, h3⟩ i hi
      cases i with
      | zero => simpa using ⟨h2, h1⟩
      | succ i =>
        have := h3 i (by simpa using hi)
        cases i with
        | zero => simpa using this
        | succ i => simpa using this
    · intro h
      have h0 := h 0 (by simp)
      simp at h0
      refine ⟨h0.2, h0.1, fun i hi => ?_⟩
      have := h (i + 1) (by simpa using hi)
      cases i with
      | zero => simpa using this
      | succ i => simpa using this
theorem srt_iff (l : PL) : okTo l l.length ↔ Srt 0 l := by
  rw [srt_iff_aux]
  constructor
  · intro h
    have hk : ∀ i, i < l.length → 0 ≤ (l[i]?.getD (0, 0)).1 ∧ (l[i]?.getD (0, 0)).1 ≤ 1000000 := fun i hi => by simpa [keyB] using (h i hi).1
    intro i hi
    refine ⟨(hk i hi).2, ?_⟩
    by_cases h0 : i = 0
    · subst h0; simpa using (hk 0 hi).1
    · have := (h i hi).2 (by omega)
      simp [h0]; omega
  · intro h i hi
    have hk : ∀ j, j ≤ i → 0 ≤ (l[j]?.getD (0, 0)).1 := by
      intro j
      induction j with
      | zero => intro _; have := (h 0 (by omega)).2; simpa using this
      | succ j ihj => intro hj; have := (h (j + 1) (by omega)).2; have := ihj (by omega); simp at *; omega
    refine ⟨by simp [keyB]; exact ⟨hk i (Nat.le_refl _), (h i hi).1⟩, fun h0 => ?_⟩
    have := (h i hi).2
    rw [if_neg (by omega)] at this
    omega
theorem chk_zero (l : PL) : chk l = 0 ↔ l.length ≤ 200 ∧ Srt 0 l := by
  unfold chk
  rw [← srt_iff]
  split
  · constructor
    · intro h; omega
    · intro h; omega
  · split
    · rename_i h1 h2; exact ⟨fun _ => ⟨by omega, h2⟩, fun _ => rfl⟩
    · rename_i h1 h2; exact ⟨fun h => by omega, fun h => absurd h.2 h2⟩

def insR (k v : Int) : PL → PL
  | [] => [(k, v)]
  | p :: t => if p.1 < k then p :: insR k v t else if p.1 = k then (k, v) :: t else (k, v) :: p :: t
def delR (k : Int) : PL → PL
  | [] => []
  | p :: t => if p.1 < k then p :: delR k t else if p.1 = k then t else p :: t
def getR (k : Int) : PL → Option Int
  | [] => none
  | p :: t => if p.1 < k then getR k t else if p.1 = k then some p.2 else none

theorem cnt_cons_lt {p : Int × Int} {t : PL} {k : Int} (h : p.1 < k) : cnt (p :: t) k = cnt t k + 1 := by simp [cnt, List.takeWhile_cons, h]
theorem cnt_cons_ge {p : Int × Int} {t : PL} {k : Int} (h : ¬ p.1 < k) : cnt (p :: t) k = 0 := by simp [cnt, List.takeWhile_cons, h]
theorem hasB_succ {p : Int × Int} {t : PL} {n : Nat} {k : Int} : hasB (p :: t) (n + 1) k = hasB t n k := by simp [hasB]
theorem hasB_zero {p : Int × Int} {t : PL} {k : Int} : hasB (p :: t) 0 k = (p.1 == k) := by simp [hasB]

theorem get_eq (l : PL) (k : Int) : getR k l = if hasB l (cnt l k) k then some (l[cnt l k]?.getD (0, 0)).2 else none := by
  induction l with
  | nil => simp [getR, hasB]
  | cons p t ih =>
    rw [getR]
    by_cases h : p.1 < k
    · rw [if_pos h, cnt_cons_lt h, hasB_succ, ih]; simp
    · rw [if_neg h, cnt_cons_ge h, hasB_zero]
      by_cases h2 : p.1 = k <;> simp [h2]
theorem has_iff (l : PL) (k : Int) : hasB l (cnt l k) k = (getR k l).isSome := by
  rw [get_eq]; cases hasB l (cnt l k) k <;> simp
theorem ins_eq (l : PL) (k v : Int) : insR k v l = if hasB l (cnt l k) k then l.set (cnt l k) (k, v) else l.take (cnt l k) ++ (k, v) :: l.drop (cnt l k) := by
  induction l with
  | nil => simp [insR, hasB, cnt]
  | cons p t ih =>
    rw [insR]
    by_cases h : p.1 < k
    · rw [if_pos h, cnt_cons_lt h, hasB_succ, ih]
      split <;> simp
    · rw [if_neg h, cnt_cons_ge h, hasB_zero]
      by_cases h2 : p.1 = k <;> simp [h2]
theorem del_eq (l : PL) (k : Int) : delR k l = if hasB l (cnt l k) k then l.take (cnt l k) ++ l.drop (cnt l k + 1) else l := by
  induction l with
  | nil => simp [delR]
  | cons p t ih =>
    rw [delR]
    by_cases h : p.1 < k
    · rw [if_pos h, cnt_cons_lt h, hasB_succ, ih]
      split <;> simp
    · rw [if_neg h, cnt_cons_ge h, hasB_zero]
      by_cases h2 : p.1 = k <;> simp [h2]

def gA : Option Int → An
  | some v => ⟨0, 0, v, true⟩
  | none => an0
theorem getA_eq (l : PL) (k : Int) : getA l k = gA (getR k l) := by
  unfold getA; rw [get_eq]; split <;> rfl
theorem cutL_eq (l : PL) (k : Int) : cutL l k = delR k l := by rw [del_eq]; rfl
theorem putL_eq (l : PL) (k v : Int) : putL l k v = if (getR k l).isSome ∨ l.length < 200 then insR k v l else l := by
  unfold putL
  rw [ins_eq, ← has_iff]
  cases hasB l (cnt l k) k with
  | true => simp
  | false =>
    by_cases h : 200 ≤ l.length
    · simp [h]; omega
    · simp [h, Nat.lt_of_not_ge h]
theorem putA_eq (l : PL) (k : Int) : putA l k = if (getR k l).isSome then ⟨0, 0, 0, true⟩ else if 200 ≤ l.length then ⟨2, 0, 0, false⟩ else an0 := by
  unfold putA
  rw [← has_iff]

theorem srt_ins (l : PL) (k v : Int) : ∀ lo, Srt lo l → lo ≤ k → k ≤ 1000000 → Srt lo (insR k v l) := by
  induction l with
  | nil => intro lo _ h1 h2; exact ⟨h1, h2, trivial⟩
  | cons p t ih =>
    intro lo h h1 h2
    rw [insR]
    split
    · exact ⟨h.1, h.2.1, ih _ h.2.2 (by omega) h2⟩
    · split
      · rename_i h3 h4
        refine ⟨h1, h2, ?_⟩
        have := h.2.2
        rw [h4] at this
        exact this
      · refine ⟨h1, h2, by show k + 1 ≤ p.1; omega, h.2.1, h.2.2⟩
theorem get_low (l : PL) (k : Int) : ∀ lo, Srt lo l → k < lo → getR k l = none := by
  intro lo h hk
  cases l with
  | nil => rfl
  | cons p t => have := h.1; rw [getR, if_neg (by omega), if_neg (by omega)]
theorem get_del (l : PL) (k o : Int) : ∀ lo, Srt lo l → getR o (delR k l) = if o = k then none else getR o l := by
  induction l with
  | nil => intro lo _; simp [delR, getR]
  | cons p t ih =>
    intro lo h
    rw [delR]
    by_cases h1 : p.1 < k
    · rw [if_pos h1, getR, getR, ih _ h.2.2]
      by_cases ho : o = k
      · subst ho; simp [h1]
      · simp [ho]
    · rw [if_neg h1]
      by_cases h2 : p.1 = k
      · rw [if_pos h2]
        by_cases ho : o = k
        · subst ho
          rw [get_low t o _ h.2.2 (by omega)]; simp
        · simp only [ho, if_false, getR]
          by_cases h3 : p.1 < o
          · simp [h3]
          · rw [if_neg h3, if_neg (by omega), get_low t o _ h.2.2 (by omega)]
      · rw [if_neg h2]
        by_cases ho : o = k
        · subst ho; simp [getR, h1, h2]
        · simp [ho]
theorem srt_del (l : PL) (k : Int) : ∀ lo, Srt lo l → Srt lo (delR k l) := by
  induction l with
  | nil => intro lo h; exact h
  | cons p t ih =>
    intro lo h
    rw [delR]
    split
    · exact ⟨h.1, h.2.1, ih _ h.2.2⟩
    · split
      · exact h.2.2.mono (by have := h.1; omega)
      · exact h
theorem ins_low (l : PL) (k v : Int) : ∀ lo, Srt lo l → k < lo → insR k v l = (k, v) :: l := by
  intro lo h hk
  cases l with
  | nil => rfl
  | cons p t => have := h.1; rw [insR, if_neg (by omega), if_neg (by omega)]
theorem len_ins (l : PL) (k v : Int) : (insR k v l).length = if (getR k l).isSome then l.length else l.length + 1 := by
  induction l with
  | nil => simp [insR, getR]
  | cons p t ih =>
    rw [insR, getR]
    by_cases h1 : p.1 < k
    · simp only [h1, if_true, List.length_cons, ih]
      split <;> rfl
    · simp only [h1, if_false]
      by_cases h2 : p.1 = k <;> simp [h2]
theorem len_del (l : PL) (k : Int) : (delR k l).length = if (getR k l).isSome then l.length - 1 else l.length := by
  induction l with
  | nil => simp [delR, getR]
  | cons p t ih =>
    rw [delR, getR]
    by_cases h1 : p.1 < k
    · simp only [h1, if_true, List.length_cons, ih]
      split
      · rename_i h
        cases t with
        | nil => simp [getR] at h
        | cons q t => simp
      · rfl
    · simp only [h1, if_false]
      by_cases h2 : p.1 = k <;> simp [h2]

end Go.Proofs.YtpnjnedfcdppaaaGreatDoor

/-
  plainLives.
-/
namespace Go.Proofs.YtpnjnedfcdppaaaGreatDoor
open Go.RowKit

end Go.Proofs.YtpnjnedfcdppaaaGreatDoor

/-
  Small steps for laws that call Do again and again: what is carried from world to world; what Do answers of a right map.
-/
namespace Go.Proofs.YtpnjnedfcdppaaaGreatDoor
open Go.RowKit

abbrev ansOf (a : An) : Obj := .cells #[I a.e, I a.k, I a.v, .bool a.b] 51
def AA (w : World) (g : Nat) (a : An) : Prop := w.heap[g]? = some (.cells #[I a.e, I a.k, I a.v, .bool a.b] 51 (0, 0))
theorem AA.lt {w : World} {g : Nat} {a : An} (h : AA w g a) : g < w.heap.size := by
  rcases Nat.lt_or_ge g w.heap.size with hlt | hge
  · exact hlt
  · unfold AA at h; rw [Array.getElem?_eq_none hge] at h; cases h
theorem AA.below {w w' : World} {g : Nat} {a : An} (h : AA w g a) (hb : Below w.heap.size w w') : AA w' g a := (hb.block g h.lt).trans h
theorem AA.alloc {w : World} {g : Nat} {a : An} (h : AA w g a) (o : Obj) : AA (w.alloc o) g a := h.below ((Below.refl _ _).alloc (Nat.le_refl _) _)
theorem AA.step {w w' : World} {g : Nat} {a : An} {o : Obj} (h : AA w g a) (hb : Below (w.alloc o).heap.size (w.alloc o) w') : AA w' g a := (h.alloc o).below hb
theorem AA.new (w : World) (a : An) : AA (w.alloc (ansOf a)) w.heap.size a := heap_alloc_new w _
theorem AA.made {w w' : World} {a : An} (hb : Below (w.alloc (ansOf a)).heap.size (w.alloc (ansOf a)) w') : AA w' w.heap.size a := (AA.new w a).below hb
theorem AA.facts {w : World} {g : Nat} {a : An} (h : AA w g a) : w.cell? ⟨g, 0, none⟩ = some (I a.e) ∧ w.cell? ⟨g, 1, none⟩ = some (I a.k) ∧ w.cell? ⟨g, 2, none⟩ = some (I a.v) ∧ w.cell? ⟨g, 3, none⟩ = some (.bool a.b) := by
  unfold AA at h
  refine ⟨?_, ?_, ?_, ?_⟩ <;> simp [World.cell?, h]
theorem AA.st4 {w : World} {g : Nat} {a : An} (h : AA w g a) (e k v : Int) (b : Bool) : AA (st4 w g e k v b) g ⟨e, k, v, b⟩ := by
  unfold AA at *
  have h' : w.heap[g]? = some (.cells ([I a.e, I a.k, I a.v, .bool a.b] : List Value).toArray 51 (0, 0)) := h
  have := cells_set (cells_set (cells_set (cells_set h' 0 (I e)) 1 (I k)) 2 (I v)) 3 (.bool b)
  simpa using this
theorem AA.drewN {w : World} {g : Nat} {a : An} (h : AA w g a) (n : Nat) : AA (w.drewN n) g a := h
theorem below_step {w w1 w' : World} {o : Obj} (h : Below w.heap.size w w1) (hb : Below (w1.alloc o).heap.size (w1.alloc o) w') : Below w.heap.size w w' :=
  (h.alloc h.size o).trans (hb.mono (by have := h.size; simp; omega))
theorem PS.step {w w' : World} {n c : Nat} {A : Option Addr} {l : PL} {o : Obj} (h : PS w A n c l) (hb : Below (w.alloc o).heap.size (w.alloc o) w') : PS w' A n c l := (h.alloc o).below hb

theorem doA_count {l : PL} (h : chk l = 0) (key : Int) : doA l 6 key = ⟨0, 0, cnt l key, true⟩ := by simp [doA, h, opB, lookA]
theorem doA_nth {l : PL} (h : chk l = 0) (key : Int) : doA l 7 key = pairA l key := by simp [doA, h, opB, lookA]
theorem doA_get {l : PL} (h : chk l = 0) (key : Int) : doA l 2 key = if keyB key then getA l key else ⟨1, 0, 0, false⟩ := by
  cases hk : keyB key <;> simp [doA, h, opB, lookA, hk]
theorem doA_next {l : PL} (h : chk l = 0) (key : Int) (hk : keyB key = true) : doA l 4 key = pairA l (cnt l (key + 1)) := by simp [doA, h, opB, lookA, hk]
theorem doA_prev {l : PL} (h : chk l = 0) (key : Int) (hk : keyB key = true) : doA l 5 key = pairA l (cnt l key - 1) := by simp [doA, h, opB, lookA, hk]
theorem doA_put {l : PL} (h : chk l = 0) (key : Int) : doA l 1 key = if keyB key then putA l key else ⟨1, 0, 0, false⟩ := by
  cases hk : keyB key <;> simp [doA, h, opB, hk]
theorem doL_put {l : PL} (h : chk l = 0) (key v : Int) : doL l 1 key v = if keyB key then putL l key v else l := by
  cases hk : keyB key <;> simp [doL, h, opB, hk]
theorem doA_cut {l : PL} (h : chk l = 0) (key : Int) : doA l 3 key = if keyB key then getA l key else ⟨1, 0, 0, false⟩ := by
  cases hk : keyB key <;> simp [doA, h, opB, hk]
theorem doL_cut {l : PL} (h : chk l = 0) (key v : Int) : doL l 3 key v = if keyB key then cutL l key else l := by
  cases hk : keyB key <;> simp [doL, h, opB, hk]

end Go.Proofs.YtpnjnedfcdppaaaGreatDoor

/-
  What Run leads to is right: plain lists.
-/
namespace Go.Proofs.YtpnjnedfcdppaaaGreatDoor
open Go.RowKit

theorem chk_doL {l : PL} (h : chk l = 0) (kind key val : Int) : chk (doL l kind key val) = 0 := by
  unfold doL
  rw [if_neg (by simpa using h)]
  cases ho : opB kind key with
  | false => simpa using h
  | true =>
    rw [if_neg (by simp)]
    split
    · rename_i hk
      subst hk
      have hk : keyB key = true := by simpa [opB] using ho
      rw [putL_eq]
      split
      · rename_i hr
        obtain ⟨h1, h2⟩ := (chk_zero l).1 h
        have hk' : 0 ≤ key ∧ key ≤ 1000000 := by simpa [keyB] using hk
        refine (chk_zero _).2 ⟨?_, srt_ins l key val 0 h2 hk'.1 hk'.2⟩
        rw [len_ins]
        split
        · exact h1
        · rcases hr with hr | hr
          · contradiction
          · omega
      · exact h
    · split
      · rw [cutL_eq]
        obtain ⟨h1, h2⟩ := (chk_zero l).1 h
        refine (chk_zero _).2 ⟨?_, srt_del l key 0 h2⟩
        rw [len_del]
        split <;> omega
      · exact h
theorem chk_runR (ops : List OP) : chk (runR ops).1 = 0 := by
  have h : ∀ (s : PL × List An), chk s.1 = 0 → chk (ops.foldl stepR s).1 = 0 := by
    induction ops with
    | nil => intro s hs; exact hs
    | cons o t ih => intro s hs; exact ih _ (chk_doL hs _ _ _)
  exact h ([], []) (by decide)

end Go.Proofs.YtpnjnedfcdppaaaGreatDoor

/-
  THE TREE AND THE MAP: what is put and taken away comes to both alike. Lists and trees alone.
-/
namespace Go.Proofs.YtpnjnedfcdppaaaGreatDoor

abbrev pk (l : PL) : List Int := l.map Prod.fst
theorem srt_ge : ∀ {l : PL} {a : Int}, Srt a l → ∀ y ∈ pk l, a ≤ y
  | [], _, _, y, h => by simp at h
  | p :: t, a, h, y, hy => by
    simp only [pk, List.map_cons, List.mem_cons] at hy
    rcases hy with rfl | hy
    · exact h.1
    · have := srt_ge h.2.2 y hy
      have := h.1
      omega
theorem srt_up : ∀ {l : PL} {a : Int}, Srt a l → Up (pk l)
  | [], _, _ => by simp [Up]
  | p :: t, a, h => by
    simp only [pk, Up, List.map_cons, List.pairwise_cons]
    refine ⟨fun y hy => ?_, srt_up h.2.2⟩
    have := srt_ge h.2.2 y hy
    omega
theorem get_mem : ∀ {l : PL} {a : Int} (k : Int), Srt a l → ((getR k l).isSome = true ↔ k ∈ pk l)
  | [], _, k, _ => by simp [getR]
  | p :: t, a, k, h => by
    unfold getR
    simp only [pk, List.map_cons, List.mem_cons]
    by_cases h1 : p.1 < k
    · rw [if_pos h1, get_mem k h.2.2]
      constructor
      · exact .inr
      · rintro (e | e)
        · omega
        · exact e
    · rw [if_neg h1]
      by_cases h2 : p.1 = k
      · rw [if_pos h2]
        simp [h2]
      · rw [if_neg h2]
        simp only [Option.isSome_none, Bool.false_eq_true, false_iff, not_or]
        refine ⟨fun e => h2 e.symm, fun e => ?_⟩
        have := srt_ge h.2.2 k e
        omega
theorem mem_insR (k v y : Int) : ∀ l : PL, y ∈ pk (insR k v l) ↔ y = k ∨ y ∈ pk l
  | [] => by simp [insR]
  | p :: t => by
    unfold insR
    by_cases h1 : p.1 < k
    · rw [if_pos h1]
      simp only [pk, List.map_cons, List.mem_cons]
      have := mem_insR k v y t
      simp only [pk] at this
      rw [this]
      constructor
      · rintro (h | h | h)
        · exact .inr (.inl h)
        · exact .inl h
        · exact .inr (.inr h)
      · rintro (h | h | h)
        · exact .inr (.inl h)
        · exact .inl h
        · exact .inr (.inr h)
    · rw [if_neg h1]
      by_cases h2 : p.1 = k
      · rw [if_pos h2]
        simp only [pk, List.map_cons, List.mem_cons]
        rw [h2]
        constructor
        · rintro (h | h)
          · exact .inl h
          · exact .inr (.inr h)
        · rintro (h | h | h)
          · exact .inl h
          · exact .inl h
          · exact .inr h
      · rw [if_neg h2]
        simp only [pk, List.map_cons, List.mem_cons]
theorem mem_delR (k y : Int) : ∀ {l : PL} {a : Int}, Srt a l → (y ∈ pk (delR k l) ↔ y ∈ pk l ∧ y ≠ k)
  | [], _, _ => by simp [delR]
  | p :: t, a, h => by
    unfold delR
    have hge := srt_ge h.2.2
    by_cases h1 : p.1 < k
    · rw [if_pos h1]
      simp only [pk, List.map_cons, List.mem_cons]
      have := mem_delR k y h.2.2
      simp only [pk] at this
      rw [this]
      constructor
      · rintro (e | e)
        · exact ⟨.inl e, by omega⟩
        · exact ⟨.inr e.1, e.2⟩
      · rintro ⟨e | e, hne⟩
        · exact .inl e
        · exact .inr ⟨e, hne⟩
    · rw [if_neg h1]
      by_cases h2 : p.1 = k
      · rw [if_pos h2]
        simp only [pk, List.map_cons, List.mem_cons]
        constructor
        · intro e
          have := hge y e
          exact ⟨.inr e, by omega⟩
        · rintro ⟨e | e, hne⟩
          · omega
          · exact e
      · rw [if_neg h2]
        simp only [pk, List.map_cons, List.mem_cons]
        constructor
        · rintro (e | e)
          · exact ⟨.inl e, by omega⟩
          · have := hge y e
            exact ⟨.inr e, by omega⟩
        · exact fun e => e.1

def grR (t : Tr) (o : OP) (a : An) : Tr := if a.e ≠ 0 then t else if o.1 = 1 then t.ins o.2.1 else if o.1 = 3 then t.del o.2.1 else t
structure Same (t : Tr) (l : PL) : Prop where
  chk : chk l = 0
  ks : t.ks = pk l
theorem Same.up {t : Tr} {l : PL} (h : Same t l) : Up t.ks := by rw [h.ks]; exact srt_up ((chk_zero l).1 h.chk).2
theorem Same.has {t : Tr} {l : PL} (h : Same t l) (k : Int) : (getR k l).isSome = true ↔ k ∈ t.ks := by rw [h.ks]; exact get_mem k ((chk_zero l).1 h.chk).2
theorem Same.ways {t : Tr} {l : PL} (h : Same t l) (kind key val : Int) :
    (doL l kind key val = l ∧ (doA l kind key).e ≠ 0) ∨
    ((doA l kind key).e = 0 ∧ kind = 1 ∧ (doA l kind key).b = true ∧ key ∈ t.ks ∧ pk (doL l kind key val) = pk l) ∨
    ((doA l kind key).e = 0 ∧ kind = 1 ∧ (doA l kind key).b = false ∧ key ∉ t.ks ∧ pk (doL l kind key val) = (t.ins key).ks) ∨
    ((doA l kind key).e = 0 ∧ kind = 3 ∧ (doA l kind key).b = true ∧ key ∈ t.ks ∧ pk (doL l kind key val) = (t.del key).ks) ∨
    ((doA l kind key).e = 0 ∧ kind = 3 ∧ (doA l kind key).b = false ∧ key ∉ t.ks ∧ doL l kind key val = l) ∨
    (kind ≠ 1 ∧ kind ≠ 3 ∧ doL l kind key val = l) := by
  have hc := h.chk
  have hs := ((chk_zero l).1 hc).2
  have hnew := chk_doL hc kind key val
  have hsn := ((chk_zero _).1 hnew).2
  have hh := h.has key
  have hu := h.up
  cases ho : opB kind key with
  | false => exact .inl ⟨by simp [doL, hc, ho], by simp [doA, hc, ho]⟩
  | true =>
    by_cases h1 : kind = 1
    · subst h1
      have eL : doL l 1 key val = putL l key val := by simp [doL, hc, ho]
      have eA : doA l 1 key = putA l key := by simp [doA, hc, ho]
      rw [eA]
      by_cases hk : (getR key l).isSome = true
      · have ea : putA l key = ⟨0, 0, 0, true⟩ := by rw [putA_eq, if_pos hk]
        have el : doL l 1 key val = insR key val l := by rw [eL, putL_eq, if_pos (.inl hk)]
        refine .inr (.inl ⟨by rw [ea], rfl, by rw [ea], hh.1 hk, ?_⟩)
        refine up_ext (srt_up hsn) (srt_up hs) fun y => ?_
        rw [el, mem_insR]
        constructor
        · rintro (e | e)
          · rw [e, ← h.ks]; exact hh.1 hk
          · exact e
        · exact .inr
      · by_cases hl : 200 ≤ l.length
        · have ea : putA l key = ⟨2, 0, 0, false⟩ := by rw [putA_eq, if_neg hk, if_pos hl]
          have el : doL l 1 key val = l := by rw [eL, putL_eq, if_neg (by rintro (e | e); exact hk e; omega)]
          exact .inl ⟨el, by rw [ea]; simp⟩
        · have ea : putA l key = an0 := by rw [putA_eq, if_neg hk, if_neg hl]
          have el : doL l 1 key val = insR key val l := by rw [eL, putL_eq, if_pos (.inr (by omega))]
          refine .inr (.inr (.inl ⟨by rw [ea], rfl, by rw [ea], fun e => hk (hh.2 e), ?_⟩))
          refine up_ext (srt_up hsn) (up_ins hu) fun y => ?_
          rw [el, mem_insR, mem_ins, h.ks]
    · by_cases h3 : kind = 3
      · subst h3
        have eL : doL l 3 key val = cutL l key := by simp [doL, hc, ho]
        have eA : doA l 3 key = getA l key := by simp [doA, hc, ho]
        have el : doL l 3 key val = delR key l := by rw [eL, cutL_eq]
        rw [eA, getA_eq]
        cases hg : getR key l with
        | some v =>
          have hm : key ∈ t.ks := hh.1 (by rw [hg]; rfl)
          refine .inr (.inr (.inr (.inl ⟨rfl, rfl, rfl, hm, ?_⟩)))
          refine up_ext (srt_up hsn) (up_del hu key) fun y => ?_
          rw [el, mem_delR key y hs, mem_del hu, h.ks]
        | none =>
          have hm : key ∉ t.ks := fun e => by have := hh.2 e; rw [hg] at this; cases this
          refine .inr (.inr (.inr (.inr (.inl ⟨rfl, rfl, rfl, hm, ?_⟩))))
          rw [el, del_eq, if_neg]
          rw [has_iff, hg]
          simp
      · exact .inr (.inr (.inr (.inr (.inr ⟨h1, h3, by simp [doL, hc, ho, h1, h3]⟩))))
theorem Same.step {t : Tr} {l : PL} (h : Same t l) (o : OP) : Same (grR t o (doA l o.1 o.2.1)) (doL l o.1 o.2.1 o.2.2) := by
  refine ⟨chk_doL h.chk _ _ _, ?_⟩
  have hu := h.up
  unfold grR
  rcases h.ways o.1 o.2.1 o.2.2 with ⟨e1, e2⟩ | ⟨e1, e2, e3, e4, e5⟩ | ⟨e1, e2, e3, e4, e5⟩ | ⟨e1, e2, e3, e4, e5⟩ | ⟨e1, e2, e3, e4, e5⟩ | ⟨e1, e2, e3⟩
  · rw [if_pos e2, e1]; exact h.ks
  · rw [if_neg (by rw [e1]; simp), if_pos e2, ins_has hu e4, e5]; exact h.ks
  · rw [if_neg (by rw [e1]; simp), if_pos e2, e5]
  · rw [if_neg (by rw [e1]; simp), if_neg (by omega), if_pos e2, e5]
  · rw [if_neg (by rw [e1]; simp), if_neg (by omega), if_pos e2, del_none e4, e5]; exact h.ks
  · rw [if_neg e1, if_neg e2, e3]
    split <;> exact h.ks

def grL (ops : List OP) : Tr × PL := ops.foldl (fun s o => (grR s.1 o (doA s.2 o.1 o.2.1), doL s.2 o.1 o.2.1 o.2.2)) (.nil, [])
abbrev grT (ops : List OP) : Tr := (grL ops).1
theorem grL_run (ops : List OP) : (grL ops).2 = (runR ops).1 := by
  have h : ∀ (ops : List OP) (t : Tr) (l : PL) (z : List An), (ops.foldl (fun s o => (grR s.1 o (doA s.2 o.1 o.2.1), doL s.2 o.1 o.2.1 o.2.2)) (t, l)).2 = (ops.foldl stepR (l, z)).1 := by
    intro ops
    induction ops with
    | nil => intro t l z; rfl
    | cons o ops ih => intro t l z; exact ih _ _ _
  exact h ops _ _ _
theorem grT_succ (ops : List OP) (k : Nat) (h : k < ops.length) : grT (ops.take (k + 1)) = grR (grT (ops.take k)) ops[k] (doA (runR (ops.take k)).1 ops[k].1 ops[k].2.1) := by
  rw [← grL_run]
  unfold grT
  rw [List.take_succ_eq_append_getElem h]
  unfold grL
  rw [List.foldl_append]
  rfl
theorem same_nil : Same .nil [] := ⟨(chk_zero []).2 ⟨by simp, trivial⟩, rfl⟩
theorem grT_same (ops : List OP) : Same (grT ops) (runR ops).1 := by
  rw [← grL_run]
  have h : ∀ (ops : List OP) (t : Tr) (l : PL), Same t l → Same (ops.foldl (fun s o => (grR s.1 o (doA s.2 o.1 o.2.1), doL s.2 o.1 o.2.1 o.2.2)) (t, l)).1 (ops.foldl (fun s o => (grR s.1 o (doA s.2 o.1 o.2.1), doL s.2 o.1 o.2.1 o.2.2)) (t, l)).2 := by
    intro ops
    induction ops with
    | nil => exact fun t l hh => hh
    | cons o ops ih => exact fun t l hh => ih _ _ (hh.step o)
  exact h ops _ _ same_nil
theorem grT_size (ops : List OP) : (grT ops).size ≤ 200 := by
  have h := grT_same ops
  have := ((chk_zero _).1 h.chk).1
  rw [← ks_length, h.ks]
  simpa using this

end Go.Proofs.YtpnjnedfcdppaaaGreatDoor

/-
  TREES THAT ARE BUILT ANEW, AND THE MAP, side by side: lists and trees alone.
-/
namespace Go.Proofs.YtpnjnedfcdppaaaGreatDoor

def goR (s : GS) (o : OP) (a : An) : GS := if a.e ≠ 0 then s else if o.1 = 1 ∧ a.b = false then goP s o.2.1 else if o.1 = 3 ∧ a.b = true then goC s o.2.1 else s
structure Cn where
  came : Nat
  went : Nat
  now : Nat
  top : Nat
def cnR (c : Cn) (o : OP) (a : An) : Cn :=
  if a.e ≠ 0 then c
  else if o.1 = 1 ∧ a.b = false then ⟨c.came + 1, c.went, c.now + 1, max c.top (c.now + 1)⟩
  else if o.1 = 3 ∧ a.b = true then ⟨c.came, c.went + 1, c.now - 1, max c.top (c.now - 1)⟩
  else ⟨c.came, c.went, c.now, max c.top c.now⟩
theorem goP_ks (s : GS) (x : Int) : (goP s x).t.ks = (s.t.ins x).ks := by
  unfold goP
  split
  · split
    · rename_i p hp
      exact reb_ks hp
    · rfl
  · rfl
theorem goP_most (s : GS) (x : Int) : (goP s x).most = max s.most (s.t.ins x).size := by
  unfold goP
  split
  · split <;> rfl
  · rfl
theorem goC_ks (s : GS) (x : Int) : (goC s x).t.ks = (s.t.del x).ks := by
  unfold goC
  split
  · exact ev_ks _ _ (Nat.le_refl _)
  · rfl
theorem goP_size {s : GS} {x : Int} (h : x ∉ s.t.ks) : (goP s x).t.size = s.t.size + 1 := by rw [← ks_length, goP_ks, ks_length, size_ins h]
theorem goC_size {s : GS} {x : Int} (hu : Up s.t.ks) (h : x ∈ s.t.ks) : (goC s x).t.size + 1 = s.t.size := by
  rw [← ks_length, goC_ks, ks_length]
  exact (del_all hu h).1

structure JI (s : GS) (c : Cn) (l : PL) : Prop where
  same : Same s.t l
  inv : GI s c.came c.went c.top
  now : c.now = s.t.size
  only : c.went = 0 → s.most = c.now ∧ c.top = c.now
theorem JI.start : JI ⟨.nil, 0, 0⟩ ⟨0, 0, 0, 0⟩ [] := ⟨same_nil, GI.start, rfl, fun _ => ⟨rfl, rfl⟩⟩
theorem JI.rest {s : GS} {c : Cn} {l l' : PL} (h : JI s c l) (hc : chk l' = 0) (hl : pk l' = pk l) : JI s ⟨c.came, c.went, c.now, max c.top c.now⟩ l' := by
  have e : max c.top c.now = c.top := by
    have h1 := h.inv.size
    have h2 := h.inv.most
    have h3 := h.now
    omega
  rw [e]
  exact ⟨⟨hc, by rw [hl]; exact h.same.ks⟩, h.inv, h.now, h.only⟩
theorem JI.step {s : GS} {c : Cn} {l : PL} (h : JI s c l) (o : OP) : JI (goR s o (doA l o.1 o.2.1)) (cnR c o (doA l o.1 o.2.1)) (doL l o.1 o.2.1 o.2.2) := by
  have hu := h.same.up
  have hcl := chk_doL h.same.chk o.1 o.2.1 o.2.2
  have hln := ((chk_zero _).1 hcl).1
  have hnow := h.now
  unfold goR cnR
  rcases h.same.ways o.1 o.2.1 o.2.2 with ⟨e1, e2⟩ | ⟨e1, e2, e3, e4, e5⟩ | ⟨e1, e2, e3, e4, e5⟩ | ⟨e1, e2, e3, e4, e5⟩ | ⟨e1, e2, e3, e4, e5⟩ | ⟨e1, e2, e3⟩
  · rw [if_pos e2, if_pos e2, e1]
    exact h
  · have n0 : ¬ (doA l o.1 o.2.1).e ≠ 0 := fun hh => hh e1
    have n1 : ¬ (o.1 = 1 ∧ (doA l o.1 o.2.1).b = false) := fun hh => by rw [e3] at hh; exact absurd hh.2 (by simp)
    have n2 : ¬ (o.1 = 3 ∧ (doA l o.1 o.2.1).b = true) := fun hh => by have := hh.1; omega
    simp only [if_neg n0, if_neg n1, if_neg n2]
    exact h.rest hcl e5
  · have n0 : ¬ (doA l o.1 o.2.1).e ≠ 0 := fun hh => hh e1
    have n1 : o.1 = 1 ∧ (doA l o.1 o.2.1).b = false := ⟨e2, e3⟩
    simp only [if_neg n0, if_pos n1]
    have hs := size_ins e4
    have h200 : s.t.size + 1 ≤ 200 := by
      have h1 : (pk (doL l o.1 o.2.1 o.2.2)).length = s.t.size + 1 := by rw [e5, ks_length, hs]
      simp only [pk, List.length_map] at h1
      omega
    refine ⟨⟨hcl, by rw [goP_ks, e5]⟩, ?_, ?_, ?_⟩
    · show GI _ (c.came + 1) c.went (max c.top (c.now + 1))
      rw [hnow]
      exact h.inv.put e4 h200
    · show c.now + 1 = _
      rw [goP_size e4, hnow]
    · intro h0
      obtain ⟨h1, h2⟩ := h.only h0
      show (goP s o.2.1).most = c.now + 1 ∧ max c.top (c.now + 1) = c.now + 1
      rw [goP_most, hs]
      omega
  · have n0 : ¬ (doA l o.1 o.2.1).e ≠ 0 := fun hh => hh e1
    have n1 : ¬ (o.1 = 1 ∧ (doA l o.1 o.2.1).b = false) := fun hh => by have := hh.1; omega
    have n2 : o.1 = 3 ∧ (doA l o.1 o.2.1).b = true := ⟨e2, e3⟩
    simp only [if_neg n0, if_neg n1, if_pos n2]
    have hsz := goC_size hu e4
    have h1 := h.inv.size
    have h2 := h.inv.most
    refine ⟨⟨hcl, by rw [goC_ks, e5]⟩, ?_, ?_, ?_⟩
    · show GI _ c.came (c.went + 1) (max c.top (c.now - 1))
      rw [show max c.top (c.now - 1) = c.top by omega]
      exact h.inv.cut e4
    · show c.now - 1 = _
      omega
    · intro h0
      exact absurd (show c.went + 1 = 0 from h0) (by omega)
  · have n0 : ¬ (doA l o.1 o.2.1).e ≠ 0 := fun hh => hh e1
    have n1 : ¬ (o.1 = 1 ∧ (doA l o.1 o.2.1).b = false) := fun hh => by have := hh.1; omega
    have n2 : ¬ (o.1 = 3 ∧ (doA l o.1 o.2.1).b = true) := fun hh => by rw [e3] at hh; exact absurd hh.2 (by simp)
    simp only [if_neg n0, if_neg n1, if_neg n2]
    exact h.rest hcl (by rw [e5])
  · have n1 : ¬ (o.1 = 1 ∧ (doA l o.1 o.2.1).b = false) := fun hh => e1 hh.1
    have n2 : ¬ (o.1 = 3 ∧ (doA l o.1 o.2.1).b = true) := fun hh => e2 hh.1
    by_cases he : (doA l o.1 o.2.1).e ≠ 0
    · rw [if_pos he, if_pos he, e3]
      exact h
    · simp only [if_neg he, if_neg n1, if_neg n2]
      exact h.rest hcl (by rw [e3])

def goL (ops : List OP) : GS × Cn × PL := ops.foldl (fun s o => (goR s.1 o (doA s.2.2 o.1 o.2.1), cnR s.2.1 o (doA s.2.2 o.1 o.2.1), doL s.2.2 o.1 o.2.1 o.2.2)) (⟨.nil, 0, 0⟩, ⟨0, 0, 0, 0⟩, [])
abbrev goT (ops : List OP) : GS := (goL ops).1
abbrev goN (ops : List OP) : Cn := (goL ops).2.1
theorem goL_run (ops : List OP) : (goL ops).2.2 = (runR ops).1 := by
  have h : ∀ (ops : List OP) (s : GS) (c : Cn) (l : PL) (z : List An), (ops.foldl (fun s o => (goR s.1 o (doA s.2.2 o.1 o.2.1), cnR s.2.1 o (doA s.2.2 o.1 o.2.1), doL s.2.2 o.1 o.2.1 o.2.2)) (s, c, l)).2.2 = (ops.foldl stepR (l, z)).1 := by
    intro ops
    induction ops with
    | nil => intro s c l z; rfl
    | cons o ops ih => intro s c l z; exact ih _ _ _ _
  exact h ops _ _ _ _
theorem goL_succ (ops : List OP) (k : Nat) (h : k < ops.length) :
    goT (ops.take (k + 1)) = goR (goT (ops.take k)) ops[k] (doA (runR (ops.take k)).1 ops[k].1 ops[k].2.1) ∧ goN (ops.take (k + 1)) = cnR (goN (ops.take k)) ops[k] (doA (runR (ops.take k)).1 ops[k].1 ops[k].2.1) := by
  rw [← goL_run]
  unfold goT goN
  rw [List.take_succ_eq_append_getElem h]
  unfold goL
  rw [List.foldl_append]
  exact ⟨rfl, rfl⟩
theorem go_inv (ops : List OP) : JI (goT ops) (goN ops) (runR ops).1 := by
  rw [← goL_run]
  have h : ∀ (ops : List OP) (s : GS) (c : Cn) (l : PL), JI s c l → JI (ops.foldl (fun s o => (goR s.1 o (doA s.2.2 o.1 o.2.1), cnR s.2.1 o (doA s.2.2 o.1 o.2.1), doL s.2.2 o.1 o.2.1 o.2.2)) (s, c, l)).1 (ops.foldl (fun s o => (goR s.1 o (doA s.2.2 o.1 o.2.1), cnR s.2.1 o (doA s.2.2 o.1 o.2.1), doL s.2.2 o.1 o.2.1 o.2.2)) (s, c, l)).2.1 (ops.foldl (fun s o => (goR s.1 o (doA s.2.2 o.1 o.2.1), cnR s.2.1 o (doA s.2.2 o.1 o.2.1), doL s.2.2 o.1 o.2.1 o.2.2)) (s, c, l)).2.2 := by
    intro ops
    induction ops with
    | nil => exact fun s c l hh => hh
    | cons o ops ih => exact fun s c l hh => ih _ _ _ (hh.step o)
  exact h ops _ _ _ JI.start
theorem go_work (ops : List OP) : (goT ops).built ≤ 6 * (((goN ops).came + (goN ops).went) * (dpst (goN ops).top + 2)) := by
  have h := (go_inv ops).inv.work
  have h1 : ((goN ops).came + (goN ops).went) * (dpst (goN ops).top + 1) ≤ ((goN ops).came + (goN ops).went) * (dpst (goN ops).top + 2) := Nat.mul_le_mul_left _ (by omega)
  omega

end Go.Proofs.YtpnjnedfcdppaaaGreatDoor

/-
  The answers of plain.Run, one by one; an op, an answer as blocks.
-/
namespace Go.Proofs.YtpnjnedfcdppaaaGreatDoor
open Go.RowKit

theorem fold_ans : ∀ (ops : List OP) (s : PL × List An), (ops.foldl stepR s).2 = s.2 ++ (ops.foldl stepR (s.1, [])).2
  | [], s => by simp
  | o :: ops, s => by
    rw [List.foldl_cons, List.foldl_cons, fold_ans ops (stepR s o), fold_ans ops (stepR (s.1, []) o)]
    simp [stepR]
theorem runR_ans (ops : List OP) (k : Nat) (h : k < ops.length) : (runR ops).2[k]'(by rw [runR_len]; exact h) = doA (runR (ops.take k)).1 ops[k].1 ops[k].2.1 := by
  have e : runR ops = (ops.drop (k + 1)).foldl stepR (stepR (runR (ops.take k)) ops[k]) := by
    rw [← runR_succ ops k h]
    unfold runR
    rw [← List.foldl_append, List.take_append_drop]
  have hl : (runR (ops.take k)).2.length = k := by rw [runR_len]; simp; omega
  have e2 : (runR ops).2 = ((runR (ops.take k)).2 ++ [doA (runR (ops.take k)).1 ops[k].1 ops[k].2.1]) ++ ((ops.drop (k + 1)).foldl stepR ((stepR (runR (ops.take k)) ops[k]).1, [])).2 := by
    rw [e, fold_ans]
    rfl
  have : (runR ops).2[k]? = some (doA (runR (ops.take k)).1 ops[k].1 ops[k].2.1) := by
    rw [e2, List.getElem?_append_left (by simp [hl]), List.getElem?_append_right (by omega), hl]
    simp
  rw [List.getElem?_eq_getElem (by rw [runR_len]; exact h)] at this
  exact Option.some.inj this

abbrev opO (kind key val : Int) : Obj := .cells #[I kind, I key, I val] 69
abbrev anO (a : An) : Obj := .cells #[I a.e, I a.k, I a.v, .bool a.b] 51

end Go.Proofs.YtpnjnedfcdppaaaGreatDoor

/-
  The walk of the law PlainRanks.
-/
namespace Go.Proofs.YtpnjnedfcdppaaaGreatDoor
open Go.RowKit

end Go.Proofs.YtpnjnedfcdppaaaGreatDoor
