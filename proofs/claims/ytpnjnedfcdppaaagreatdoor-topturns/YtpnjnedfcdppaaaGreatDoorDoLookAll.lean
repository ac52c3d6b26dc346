/-
  Joined texts: YtpnjnedfcdppaaaGreatDoorDoAll, YtpnjnedfcdppaaaGreatDoorDoLook.
-/
import Derived.Test.YtpnjnedfcdppaaaGreatDoorLookAll
import Derived.Deep.RegionWith
/-
  Do.
-/
namespace Go.Proofs.YtpnjnedfcdppaaaGreatDoor
open Go.RowKit

/-- an op, boxed -/
def OB (w : World) (g : Nat) (kind key val : Int) : Prop := w.heap[g]? = some (.cells #[I kind, I key, I val] 69 (0, 0))
theorem OB.new (w : World) (kind key val : Int) : OB (w.alloc (.cells #[I kind, I key, I val] 69)) w.heap.size kind key val := heap_alloc_new w _
theorem OB.below {w w' : World} {g B : Nat} {kind key val : Int} (h : OB w g kind key val) (hb : Below B w w') (hg : g < B) : OB w' g kind key val := (hb.block g hg).trans h
theorem OB.facts {w : World} {g : Nat} {kind key val : Int} (h : OB w g kind key val) : w.cell? ⟨g, 0, none⟩ = some (I kind) ∧ w.cell? ⟨g, 1, none⟩ = some (I key) ∧ w.cell? ⟨g, 2, none⟩ = some (I val) := by
  unfold OB at h
  refine ⟨?_, ?_, ?_⟩ <;> simp [World.cell?, h]

theorem OB.far {w : World} {g : Nat} {kind key val : Int} (h : OB w g kind key val) {p : Addr} (hp : p.block ≠ g) (u : Value) : OB (w.setCell p u) g kind key val := (Below.heap_setCell w p u g (fun e => hp e.symm)).trans h
theorem ob_st4 {w : World} {g g' : Nat} {kind key val : Int} (h : OB w g kind key val) (hp : g' ≠ g) (e k v : Int) (b : Bool) :
    (st4 w g' e k v b).cell? ⟨g, 0, none⟩ = some (I kind) ∧ (st4 w g' e k v b).cell? ⟨g, 1, none⟩ = some (I key) ∧ (st4 w g' e k v b).cell? ⟨g, 2, none⟩ = some (I val) :=
  ((((h.far (p := ⟨g', 0, none⟩) hp _).far (p := ⟨g', 1, none⟩) hp _).far (p := ⟨g', 2, none⟩) hp _).far (p := ⟨g', 3, none⟩) hp _).facts

def doL (l : PL) (kind key val : Int) : PL := if chk l ≠ 0 then [] else if opB kind key = false then l else if kind = 1 then putL l key val else if kind = 3 then cutL l key else l
def doA (l : PL) (kind key : Int) : An := if chk l ≠ 0 then ⟨chk l, 0, 0, false⟩ else if opB kind key = false then ⟨1, 0, 0, false⟩ else if kind = 1 then putA l key else if kind = 3 then getA l key else lookA l kind key

theorem chk_len {l : PL} (h : chk l = 0) : l.length ≤ 200 := by
  unfold chk at h
  split at h
  · omega
  · omega

theorem isOp_t (kind key val : Int) (w : World) (h : opB kind key = true) : Calls Tryz.prog 122 #[.agg #[I kind, I key, I val]] w fun e w' => e = .returned (.bool true) ∧ Below w.heap.size w w' :=
  (isOp_any kind key val w).mono fun _ _ ⟨he, hw⟩ => ⟨by rw [he, h], hw⟩
theorem isOp_f (kind key val : Int) (w : World) (h : opB kind key = false) : Calls Tryz.prog 122 #[.agg #[I kind, I key, I val]] w fun e w' => e = .returned (.bool false) ∧ Below w.heap.size w w' :=
  (isOp_any kind key val w).mono fun _ _ ⟨he, hw⟩ => ⟨by rw [he, h], hw⟩
theorem Check_is (A : Option Addr) (n c : Nat) (l : PL) (w : World) (h : PS w A n c l) (hn : n ≤ 9223372036854775807) (E : Int) (hE : chk l = E) :
    Calls Tryz.prog 121 #[.slice A n c] w fun e w' => e = .returned (I E) ∧ Below w.heap.size w w' :=
  (Check_any A n c l w h hn).mono fun _ _ ⟨he, hw⟩ => ⟨by rw [he, hE], hw⟩

/-- the world behind the box and the answer's cells -/
abbrev w0 (w : World) (kind key val : Int) : World := (w.alloc (.cells #[I kind, I key, I val] 69)).alloc ansO
theorem w0_below (w : World) (kind key val : Int) : Below w.heap.size w (w0 w kind key val) := ((Below.refl _ _).alloc (Nat.le_refl _) _).alloc (by simp) _
theorem w0_size (w : World) (kind key val : Int) : (w0 w kind key val).heap.size = w.heap.size + 2 := by simp
theorem w0_ab (w : World) (kind key val : Int) : AB (w0 w kind key val) (w.heap.size + 1) := by simpa using AB.new (w.alloc (.cells #[I kind, I key, I val] 69))
theorem w0_ob (w : World) (kind key val : Int) : OB (w0 w kind key val) w.heap.size kind key val :=
  (OB.new w kind key val).below (B := w.heap.size + 1) ((Below.refl _ _).alloc (by simp) _) (by omega)

set_option maxRecDepth 100000 in
set_option maxHeartbeats 1000000 in
theorem Do_bad (A : Option Addr) (n c : Nat) (l : PL) (kind key val : Int) (w : World) (h : PS w A n c l) (hn : n ≤ 9223372036854775807) (hc : chk l ≠ 0) :
    Calls Tryz.prog 58 #[.slice A n c, .agg #[I kind, I key, I val]] w (RetPA (doL l kind key val) (doA l kind key) w) := by
  have H := Lib.hid h
  clear h
  have HF : Hid (doL l kind key val = [] ∧ doA l kind key = ⟨chk l, 0, 0, false⟩) := by show _ ∧ _; simp [doL, doA, hc]
  have hne : (chk l != 0) = true := by simpa using hc
  clear hc
  generalize hE : chk l = E at *
  have HE := Lib.hid hE
  clear hE
  go_enter Tryz.func58, Tryz.ntmps58
  go_wp2_with fail
  refine (Check_is A n c l _ (H.out.below (w0_below w kind key val)) hn E HE.out).mono ?_
  rintro e w2 ⟨rfl, hb⟩
  have hsz := w0_size w kind key val
  have hab : AB w2 (w.heap.size + 1) := (w0_ab w kind key val).below hb (by omega)
  obtain ⟨⟨a0, a1, a2, a3⟩, f0, f1, f2, f3⟩ := hab.facts
  have HB2 := Lib.hid ((w0_below w kind key val).trans (hb.mono (by omega)))
  clear hb hab hsz
  go_wp2
  refine bodyPost_ret (v := .tuple #[.slice none 0 0, anV ⟨E, 0, 0, false⟩]) (by simp [results, Tryz.results58, go_sem, a0, a1, a2, a3]) rfl ?_
  rw [HF.out.1]
  exact retPA_mk ⟨rfl, Rd.none_⟩ (below_st4 HB2.out (by simp) _ _ _ _) HF.out.2 (fun ad h => by cases h)

set_option maxRecDepth 100000 in
set_option maxHeartbeats 1000000 in
theorem Do_noop (A : Option Addr) (n c : Nat) (l : PL) (kind key val : Int) (w : World) (h : PS w A n c l) (hc : chk l = 0) (ho : opB kind key = false) :
    Calls Tryz.prog 58 #[.slice A n c, .agg #[I kind, I key, I val]] w (RetPA (doL l kind key val) (doA l kind key) w) := by
  have hn : n ≤ 200 := by have := chk_len hc; rw [h.len] at this; exact this
  have H := Lib.hid h
  clear h
  have HF : Hid (doL l kind key val = l ∧ doA l kind key = ⟨1, 0, 0, false⟩) := by show _ ∧ _; simp [doL, doA, hc, ho]
  have HE := Lib.hid hc
  have HO := Lib.hid ho
  clear hc ho
  go_enter Tryz.func58, Tryz.ntmps58
  go_wp2_with fail
  refine (Check_is A n c l _ (H.out.below (w0_below w kind key val)) (by omega) 0 HE.out).mono ?_
  rintro e w2 ⟨rfl, hb⟩
  have hsz := w0_size w kind key val
  have hab : AB w2 (w.heap.size + 1) := (w0_ab w kind key val).below hb (by omega)
  have hob : OB w2 w.heap.size kind key val := (w0_ob w kind key val).below hb (by omega)
  have hbw : Below w.heap.size w w2 := (w0_below w kind key val).trans (hb.mono (by omega))
  obtain ⟨o0, o1, o2⟩ := hob.facts
  have HSZ : Hid (w.heap.size + 2 ≤ w2.heap.size) := by have := hb.size; show _ ≤ _; omega
  have HAB := Lib.hid hab
  have HB2 := Lib.hid hbw
  clear hb hab hsz hob hbw
  go_wp2_with fail
  refine (isOp_f kind key val _ HO.out).mono ?_
  rintro e w3 ⟨rfl, hb⟩
  have hab : AB w3 (w.heap.size + 1) := HAB.out.below hb (by have := HSZ.out; omega)
  have hbw : Below w.heap.size w w3 := HB2.out.trans (hb.mono (by have := HSZ.out; omega))
  have HSZ3 : Hid (w.heap.size + 2 ≤ w3.heap.size) := by have := hb.size; have := HSZ.out; show _ ≤ _; omega
  have HAB3 := Lib.hid hab
  have HB3 := Lib.hid hbw
  clear hb hab hbw o0 o1 o2
  go_wp2_with fail
  refine (copyOf_any _ n c l _ (H.out.below HB3.out) (by omega)).mono ?_
  rintro e w4 ⟨rfl, hpb, hb⟩
  have hab : AB w4 (w.heap.size + 1) := HAB3.out.below hb (by have := HSZ3.out; omega)
  obtain ⟨⟨a0, a1, a2, a3⟩, f0, f1, f2, f3⟩ := hab.facts
  have HB4 := Lib.hid (HB3.out.trans (hb.mono (by have := HSZ3.out; omega)))
  have HP := Lib.hid hpb
  clear hb hab hpb
  go_wp2
  refine bodyPost_ret (v := .tuple #[.slice (some ⟨w3.heap.size, 0, none⟩) n n, anV ⟨1, 0, 0, false⟩]) (by simp [results, Tryz.results58, go_sem, a0, a1, a2, a3]) rfl ?_
  have hp := (HP.out.st4 (g' := w.heap.size + 1) (by have := HSZ3.out; omega) 1 0 0 false).ps (c := n) (by rw [H.out.len]; exact Nat.le_refl _)
  rw [H.out.len] at hp
  rw [HF.out.1]
  exact retPA_mk hp (below_st4 HB4.out (by simp) _ _ _ _) HF.out.2 (fun ad h => by cases h; have := HSZ3.out; show w.heap.size ≤ w3.heap.size; omega)

set_option maxRecDepth 100000 in
set_option maxHeartbeats 1000000 in
theorem Do_put (A : Option Addr) (n c : Nat) (l : PL) (key val : Int) (w : World) (h : PS w A n c l) (hc : chk l = 0) (ho : opB 1 key = true) :
    Calls Tryz.prog 58 #[.slice A n c, .agg #[I 1, I key, I val]] w (RetPA (doL l 1 key val) (doA l 1 key) w) := by
  have hn : n ≤ 200 := by have := chk_len hc; rw [h.len] at this; exact this
  have H := Lib.hid h
  clear h
  have HF : Hid (doL l 1 key val = putL l key val ∧ doA l 1 key = putA l key) := by show _ ∧ _; simp [doL, doA, hc, ho]
  have HE := Lib.hid hc
  have HO := Lib.hid ho
  clear hc ho
  go_enter Tryz.func58, Tryz.ntmps58
  go_wp2_with fail
  refine (Check_is A n c l _ (H.out.below (w0_below w 1 key val)) (by omega) 0 HE.out).mono ?_
  rintro e w2 ⟨rfl, hb⟩
  have hsz := w0_size w 1 key val
  have hab : AB w2 (w.heap.size + 1) := (w0_ab w 1 key val).below hb (by omega)
  have hob : OB w2 w.heap.size 1 key val := (w0_ob w 1 key val).below hb (by omega)
  have hbw : Below w.heap.size w w2 := (w0_below w 1 key val).trans (hb.mono (by omega))
  obtain ⟨o0, o1, o2⟩ := hob.facts
  have HSZ : Hid (w.heap.size + 2 ≤ w2.heap.size) := by have := hb.size; show _ ≤ _; omega
  have HAB := Lib.hid hab
  have HOB := Lib.hid hob
  have HB2 := Lib.hid hbw
  clear hb hab hsz hob hbw
  go_wp2_with fail
  refine (isOp_t 1 key val _ HO.out).mono ?_
  rintro e w3 ⟨rfl, hb⟩
  have hab : AB w3 (w.heap.size + 1) := HAB.out.below hb (by have := HSZ.out; omega)
  have hob : OB w3 w.heap.size 1 key val := HOB.out.below hb (by have := HSZ.out; omega)
  have hbw : Below w.heap.size w w3 := HB2.out.trans (hb.mono (by have := HSZ.out; omega))
  have HSZ3 : Hid (w.heap.size + 2 ≤ w3.heap.size) := by have := hb.size; have := HSZ.out; show _ ≤ _; omega
  have HAB3 := Lib.hid hab
  have HOB3 := Lib.hid hob
  have HB3 := Lib.hid hbw
  clear o0 o1 o2
  obtain ⟨o0, o1, o2⟩ := hob.facts
  clear hb hab hob hbw
  go_wp2_with fail
  refine (put_any _ n c l key val _ (H.out.below HB3.out) hn).mono ?_
  rintro e w4 ⟨A', n', c', rfl, hps, hb, hA⟩
  have hab : AB w4 (w.heap.size + 1) := HAB3.out.below hb (by have := HSZ3.out; omega)
  obtain ⟨⟨a0, a1, a2, a3⟩, f0, f1, f2, f3⟩ := hab.facts
  have HB4 := Lib.hid (HB3.out.trans (hb.mono (by have := HSZ3.out; omega)))
  have HP := Lib.hid hps
  have HA := Lib.hid hA
  clear hb hab hps hA
  go_wp2
  refine bodyPost_ret (v := .tuple #[.slice A' n' c', anV (putA l key)]) (by simp [results, Tryz.results58, go_sem, a0, a1, a2, a3]) rfl ?_
  rw [HF.out.1]
  refine retPA_mk (e := (putA l key).e) (HP.out.st4 (fun ad h => ?_) _ _ _ _) (below_st4 HB4.out (by simp) _ _ _ _) HF.out.2 (fun ad h => ?_)
  · have := HA.out ad h; have := HSZ3.out; omega
  · have := HA.out ad h; have := HSZ3.out; omega

set_option maxRecDepth 100000 in
set_option maxHeartbeats 1000000 in
theorem Do_cut (A : Option Addr) (n c : Nat) (l : PL) (key val : Int) (w : World) (h : PS w A n c l) (hc : chk l = 0) (ho : opB 3 key = true) :
    Calls Tryz.prog 58 #[.slice A n c, .agg #[I 3, I key, I val]] w (RetPA (doL l 3 key val) (doA l 3 key) w) := by
  have hn : n ≤ 200 := by have := chk_len hc; rw [h.len] at this; exact this
  have H := Lib.hid h
  clear h
  have HF : Hid (doL l 3 key val = cutL l key ∧ doA l 3 key = getA l key) := by show _ ∧ _; simp [doL, doA, hc, ho]
  have HE := Lib.hid hc
  have HO := Lib.hid ho
  clear hc ho
  go_enter Tryz.func58, Tryz.ntmps58
  go_wp2_with fail
  refine (Check_is A n c l _ (H.out.below (w0_below w 3 key val)) (by omega) 0 HE.out).mono ?_
  rintro e w2 ⟨rfl, hb⟩
  have hsz := w0_size w 3 key val
  have hab : AB w2 (w.heap.size + 1) := (w0_ab w 3 key val).below hb (by omega)
  have hob : OB w2 w.heap.size 3 key val := (w0_ob w 3 key val).below hb (by omega)
  have hbw : Below w.heap.size w w2 := (w0_below w 3 key val).trans (hb.mono (by omega))
  obtain ⟨o0, o1, o2⟩ := hob.facts
  have HSZ : Hid (w.heap.size + 2 ≤ w2.heap.size) := by have := hb.size; show _ ≤ _; omega
  have HAB := Lib.hid hab
  have HOB := Lib.hid hob
  have HB2 := Lib.hid hbw
  clear hb hab hsz hob hbw
  go_wp2_with fail
  refine (isOp_t 3 key val _ HO.out).mono ?_
  rintro e w3 ⟨rfl, hb⟩
  have hab : AB w3 (w.heap.size + 1) := HAB.out.below hb (by have := HSZ.out; omega)
  have hob : OB w3 w.heap.size 3 key val := HOB.out.below hb (by have := HSZ.out; omega)
  have hbw : Below w.heap.size w w3 := HB2.out.trans (hb.mono (by have := HSZ.out; omega))
  have HSZ3 : Hid (w.heap.size + 2 ≤ w3.heap.size) := by have := hb.size; have := HSZ.out; show _ ≤ _; omega
  have HAB3 := Lib.hid hab
  have HOB3 := Lib.hid hob
  have HB3 := Lib.hid hbw
  clear o0 o1 o2
  obtain ⟨o0, o1, o2⟩ := hob.facts
  clear hb hab hob hbw
  go_wp2_with fail
  refine (cut_any _ n c l key _ (H.out.below HB3.out) hn).mono ?_
  rintro e w4 ⟨A', n', c', rfl, hps, hb, hA⟩
  have hab : AB w4 (w.heap.size + 1) := HAB3.out.below hb (by have := HSZ3.out; omega)
  obtain ⟨⟨a0, a1, a2, a3⟩, f0, f1, f2, f3⟩ := hab.facts
  have HB4 := Lib.hid (HB3.out.trans (hb.mono (by have := HSZ3.out; omega)))
  have HP := Lib.hid hps
  have HA := Lib.hid hA
  clear hb hab hps hA
  go_wp2
  refine bodyPost_ret (v := .tuple #[.slice A' n' c', anV (getA l key)]) (by simp [results, Tryz.results58, go_sem, a0, a1, a2, a3]) rfl ?_
  rw [HF.out.1]
  refine retPA_mk (e := (getA l key).e) (HP.out.st4 (fun ad h => ?_) _ _ _ _) (below_st4 HB4.out (by simp) _ _ _ _) HF.out.2 (fun ad h => ?_)
  · have := HA.out ad h; have := HSZ3.out; omega
  · have := HA.out ad h; have := HSZ3.out; omega

end Go.Proofs.YtpnjnedfcdppaaaGreatDoor

/-
  Do where nothing changes; Do whole.
-/
namespace Go.Proofs.YtpnjnedfcdppaaaGreatDoor
open Go.RowKit

set_option maxRecDepth 100000 in
set_option maxHeartbeats 1000000 in
theorem Do_look (A : Option Addr) (n c : Nat) (l : PL) (kind key val : Int) (w : World) (h : PS w A n c l) (hc : chk l = 0) (ho : opB kind key = true) (h1 : kind ≠ 1) (h3 : kind ≠ 3) :
    Calls Tryz.prog 58 #[.slice A n c, .agg #[I kind, I key, I val]] w (RetPA (doL l kind key val) (doA l kind key) w) := by
  have hn : n ≤ 200 := by have := chk_len hc; rw [h.len] at this; exact this
  have H := Lib.hid h
  clear h
  have HF : Hid (doL l kind key val = l ∧ doA l kind key = lookA l kind key) := by show _ ∧ _; simp [doL, doA, hc, ho, h1, h3]
  have HE := Lib.hid hc
  have HO := Lib.hid ho
  clear hc ho
  go_enter Tryz.func58, Tryz.ntmps58
  go_wp2_with fail
  refine (Check_is A n c l _ (H.out.below (w0_below w kind key val)) (by omega) 0 HE.out).mono ?_
  rintro e w2 ⟨rfl, hb⟩
  have hsz := w0_size w kind key val
  have hab : AB w2 (w.heap.size + 1) := (w0_ab w kind key val).below hb (by omega)
  have hob : OB w2 w.heap.size kind key val := (w0_ob w kind key val).below hb (by omega)
  have hbw : Below w.heap.size w w2 := (w0_below w kind key val).trans (hb.mono (by omega))
  obtain ⟨o0, o1, o2⟩ := hob.facts
  have HSZ : Hid (w.heap.size + 2 ≤ w2.heap.size) := by have := hb.size; show _ ≤ _; omega
  have HAB := Lib.hid hab
  have HOB := Lib.hid hob
  have HB2 := Lib.hid hbw
  clear hb hab hsz hob hbw
  go_wp2_with fail
  refine (isOp_t kind key val _ HO.out).mono ?_
  rintro e w3 ⟨rfl, hb⟩
  have hab : AB w3 (w.heap.size + 1) := HAB.out.below hb (by have := HSZ.out; omega)
  have hob : OB w3 w.heap.size kind key val := HOB.out.below hb (by have := HSZ.out; omega)
  have hbw : Below w.heap.size w w3 := HB2.out.trans (hb.mono (by have := HSZ.out; omega))
  have HSZ3 : Hid (w.heap.size + 2 ≤ w3.heap.size) := by have := hb.size; have := HSZ.out; show _ ≤ _; omega
  have HAB3 := Lib.hid hab
  have HOB3 := Lib.hid hob
  have HB3 := Lib.hid hbw
  clear o0 o1 o2
  obtain ⟨o0, o1, o2⟩ := hob.facts
  clear hb hab hob hbw
  have g1 : (kind == 1) = false := beq_eq_false_iff_ne.2 h1
  have g3 : (kind == 3) = false := beq_eq_false_iff_ne.2 h3
  have hk : (0 ≤ key ∧ key ≤ 1000000) ∨ (kind = 6 ∨ kind = 7) := by
    have := HO.out
    unfold opB at this
    split at this
    · left; simpa [keyB] using this
    · right; simpa using this
  have HK := Lib.hid hk
  clear h1 h3 hk
  go_wp2
  have hs0 : PS w3.drew A n c l := (H.out.below HB3.out).drew
  have HS0 := Lib.hid hs0
  clear hs0
  go_region_with
    (first
      | (go_at_call 123
         refine (copyOf_any _ n c l _ HS0.out (by omega)).mono ?_
         rintro e w4 ⟨rfl, hpb, hb⟩
         have hab4 : AB w4 (w.heap.size + 1) := AB.below (w := w3.drew) HAB3.out hb (by have := HSZ3.out; show w.heap.size + 1 < w3.heap.size; omega)
         have hob4 : OB w4 w.heap.size kind key val := OB.below (w := w3.drew) HOB3.out hb (by have := HSZ3.out; show w.heap.size < w3.heap.size; omega)
         have hbw4 : Below w.heap.size w w4 := HB3.out.drew.trans (hb.mono (by have := HSZ3.out; show w.heap.size ≤ w3.heap.size; omega))
         obtain ⟨q0, q1, q2⟩ := hob4.facts
         have HP4 := Lib.hid hpb
         have HAB4 := Lib.hid hab4
         have HB4 := Lib.hid hbw4
         have HSZ4 : Hid (w3.heap.size < w4.heap.size) := hpb.lt
         have HOB4 := Lib.hid hob4
         clear hab4 hob4 hbw4 hpb hb)
      | (go_at_call 126
         refine (look_any _ n c l kind key val _ (H.out.below HB4.out) hn HK.out).mono ?_
         rintro e w5 ⟨rfl, hb⟩
         have hab5 : AB w5 (w.heap.size + 1) := HAB4.out.below hb (by have := HSZ3.out; have := HSZ4.out; omega)
         have hp5 : PB w5 w3.heap.size 48 l := HP4.out.below hb HSZ4.out
         have hbw5 : Below w.heap.size w w5 := HB4.out.trans (hb.mono (by have := HSZ3.out; have := HSZ4.out; omega))
         obtain ⟨⟨a0, a1, a2, a3⟩, f0, f1, f2, f3⟩ := hab5.facts
         have HOB5 := Lib.hid (HOB4.out.below hb (by have := HSZ3.out; have := HSZ4.out; omega))
         obtain ⟨r0, r1, r2⟩ := HOB5.out.facts
         have HP5 := Lib.hid hp5
         have HB5 := Lib.hid hbw5
         clear hab5 hbw5 hp5 hb))
  all_goals
    go_wp2
    refine bodyPost_ret (v := .tuple #[.slice (some ⟨w3.heap.size, 0, none⟩) n n, anV (lookA l kind key)]) (by simp [results, Tryz.results58, go_sem, a0, a1, a2, a3]) rfl ?_
    have hp := (HP5.out.st4 (g' := w.heap.size + 1) (by have := HSZ3.out; omega) (lookA l kind key).e (lookA l kind key).k (lookA l kind key).v (lookA l kind key).b).ps (c := n) (by rw [H.out.len]; exact Nat.le_refl _)
    rw [H.out.len] at hp
    rw [HF.out.1]
    exact retPA_mk hp (below_st4 HB5.out (by simp) _ _ _ _) HF.out.2 (fun ad h => by cases h; have := HSZ3.out; show w.heap.size ≤ w3.heap.size; omega)

theorem Do_any (A : Option Addr) (n c : Nat) (l : PL) (kind key val : Int) (w : World) (h : PS w A n c l) (hn : n ≤ 9223372036854775807) :
    Calls Tryz.prog 58 #[.slice A n c, .agg #[I kind, I key, I val]] w (RetPA (doL l kind key val) (doA l kind key) w) := by
  by_cases hc : chk l = 0
  · cases ho : opB kind key with
    | false => exact Do_noop A n c l kind key val w h hc ho
    | true =>
      by_cases h1 : kind = 1
      · subst h1; exact Do_put A n c l key val w h hc ho
      · by_cases h3 : kind = 3
        · subst h3; exact Do_cut A n c l key val w h hc ho
        · exact Do_look A n c l kind key val w h hc ho h1 h3
  · exact Do_bad A n c l kind key val w h hn hc

end Go.Proofs.YtpnjnedfcdppaaaGreatDoor
