/-
  What DeskZip wants: all keys put anew, and told: plain. No program is walked.
-/
import Derived.Test.YtpnjnedfcdppaaaGreatDoorDZipQ
namespace Go.Proofs.YtpnjnedfcdppaaaGreatDoor

theorem put_step {l : PL} {k : Int} (hc : chk l = 0) (h0 : 0 ≤ k) (h1 : k ≤ 1000000) (hl : l.length < 200) : (doA l 1 k).e = 0 ∧ doL l 1 k 0 = insR k 0 l := by
  have ho : opB 1 k = true := by unfold opB keyB; rw [if_pos (by omega)]; exact decide_eq_true ⟨h0, h1⟩
  constructor
  · unfold doA
    rw [if_neg (by rw [hc]; decide), if_neg (by rw [ho]; decide), if_pos rfl]
    unfold putA
    split
    · rfl
    · rw [if_neg (by omega)]
  · unfold doL
    rw [if_neg (by rw [hc]; decide), if_neg (by rw [ho]; decide), if_pos rfl, putL_eq, if_pos (.inr hl)]
theorem doL_chk {l : PL} {k : Int} (hc : chk l = 0) (h0 : 0 ≤ k) (h1 : k ≤ 1000000) (hl : l.length < 200) : chk (insR k 0 l) = 0 := by
  have hs := (chk_zero l).1 hc
  refine (chk_zero _).2 ⟨?_, srt_ins l k 0 0 hs.2 h0 h1⟩
  rw [len_ins]
  split <;> omega
theorem puts_mem : ∀ (ks : List Int) (l : PL), chk l = 0 → (∀ k ∈ ks, 0 ≤ k ∧ k ≤ 1000000) → l.length + ks.length ≤ 200 → ∀ x, x ∈ kys (foldL (putsOf ks) l) ↔ x ∈ kys l ∨ x ∈ ks
  | [], l, _, _, _, x => by simp [putsOf, foldL]
  | k :: r, l, hc, hb, hl, x => by
    have hk := hb k (by simp)
    simp only [List.length_cons] at hl
    have hs := (put_step hc hk.1 hk.2 (by omega)).2
    show x ∈ kys (foldL (putsOf r) (doL l 1 k 0)) ↔ _
    rw [hs]
    have hlen : (insR k 0 l).length ≤ l.length + 1 := by rw [len_ins]; split <;> omega
    rw [puts_mem r (insR k 0 l) (doL_chk hc hk.1 hk.2 (by omega)) (fun y hy => hb y (by simp [hy])) (by omega) x]
    have hm : x ∈ kys (insR k 0 l) ↔ x = k ∨ x ∈ kys l := mem_insR k 0 x l
    rw [hm, List.mem_cons]
    constructor
    · rintro ((h | h) | h)
      · exact .inr (.inl h)
      · exact .inl h
      · exact .inr (.inr h)
    · rintro (h | h | h)
      · exact .inl (.inr h)
      · exact .inl (.inl h)
      · exact .inr h
theorem puts_keys {K ks : List Int} (hK : Rise K) (hm : ∀ x, x ∈ ks ↔ x ∈ K) (hl : ks.length ≤ 200) : kys (runR (putsOf ks)).1 = K := by
  have hup : Up (kys (runR (putsOf ks)).1) := (rise_kys (chk_runR _)).pw
  refine up_ext hup hK.pw fun x => ?_
  rw [runR_fst, puts_mem ks [] (by decide) (fun k hk => hK.bd k ((hm k).1 hk)) (by simpa using hl) x, ← hm x]
  simp [kys]
theorem mem_pre : ∀ (t : Tr) (x : Int), x ∈ t.pre ↔ x ∈ t.ks
  | .nil, x => Iff.rfl
  | .node a k b, x => by
    show x ∈ k :: (a.pre ++ b.pre) ↔ x ∈ a.ks ++ k :: b.ks
    simp only [List.mem_cons, List.mem_append, mem_pre a x, mem_pre b x]
    constructor
    · rintro (h | h | h)
      · exact .inr (.inl h)
      · exact .inl h
      · exact .inr (.inr h)
    · rintro (h | h | h)
      · exact .inr (.inl h)
      · exact .inl h
      · exact .inr (.inr h)
/-- the words of a line that puts -/
def putLs (ks : List Int) : List (List (List UInt8)) := ks.map fun k => [[112, 117, 116], dg k.toNat, [48]]
theorem dAns_put {ops : List OP} {k : Int} (h0 : 0 ≤ k) (h1 : k ≤ 1000000) (hl : ops.length < 200) : (dAns ops [[112, 117, 116], dg k.toNat, [48]]).2 = ops ++ [(1, k, 0)] := by
  have hd : dOp 1 [dg k.toNat, [48]] = some (1, k, 0) := by
    have e : nms 2 [dg k.toNat, [48]] = some [k.toNat, 0] := by
      show (if (2 : Nat) = 2 then nmsL [dg k.toNat, [48]] else none) = _
      rw [if_pos rfl]
      unfold nmsL
      rw [nmb_dg (by omega)]
      rfl
    show op2 (nms 2 [dg k.toNat, [48]]) = _
    rw [e]
    show some (1, ((k.toNat : Nat) : Int), ((0 : Nat) : Int)) = _
    have : ((k.toNat : Nat) : Int) = k := by omega
    rw [this]
    rfl
  show (opR ops (dOp 1 [dg k.toNat, [48]])).2 = _
  rw [hd]
  have hg := runR_grow ops
  have he := (put_step (chk_runR ops) h0 h1 (by omega)).1
  show (if (doA (runR ops).1 1 k).e ≠ 0 then _ else _ : List UInt8 × List OP).2 = _
  rw [if_neg (by rw [he]; decide)]
theorem dSt_puts : ∀ (ks : List Int) (ops : List OP), (∀ k ∈ ks, 0 ≤ k ∧ k ≤ 1000000) → ops.length + ks.length ≤ 200 → dSt ops (putLs ks) = ops ++ putsOf ks
  | [], ops, _, _ => by simp [dSt, putLs, putsOf]
  | k :: r, ops, hb, hl => by
    have hk := hb k (by simp)
    simp only [List.length_cons] at hl
    show dSt (dAns ops [[112, 117, 116], dg k.toNat, [48]]).2 (putLs r) = _
    rw [dAns_put hk.1 hk.2 (by omega), dSt_puts r _ (fun y hy => hb y (by simp [hy])) (by simp; omega)]
    simp [putsOf]
/-- the text that puts them anew, the last one first -/
def anT (acc : List UInt8) : List Int → List UInt8
  | [] => acc
  | k :: r => anT ([112, 117, 116, 32] ++ dg k.toNat ++ [32, 48, 10] ++ acc) r
theorem anT_dln (e : List UInt8) : ∀ (ks : List Int) (acc : List UInt8), dln (anT acc ks ++ 10 :: e) = putLs ks.reverse ++ dln (acc ++ 10 :: e)
  | [], acc => rfl
  | k :: r, acc => by
    rw [anT, anT_dln e r]
    have e1 : [112, 117, 116, 32] ++ dg k.toNat ++ [32, 48, 10] ++ acc ++ 10 :: e = putW k.toNat ++ 10 :: (acc ++ 10 :: e) := by simp [putW]
    rw [e1, dln_lf, putW_dln]
    simp [putLs]
theorem anT_snoc : ∀ (acc : List UInt8) (ks : List Int) (k : Int), anT acc (ks ++ [k]) = [112, 117, 116, 32] ++ dg k.toNat ++ [32, 48, 10] ++ anT acc ks
  | acc, [], k => rfl
  | acc, x :: r, k => by
    show anT _ (r ++ [k]) = _
    rw [anT_snoc]
    rfl
theorem anT_len : ∀ (ks : List Int) (acc : List UInt8), (anT acc ks).length ≤ acc.length + 30 * ks.length
  | [], acc => by simp [anT]
  | k :: r, acc => by
    rw [anT]
    have h := anT_len r ([112, 117, 116, 32] ++ dg k.toNat ++ [32, 48, 10] ++ acc)
    have h2 := dg_len k.toNat
    simp only [List.length_append, List.length_cons, List.length_nil] at h ⊢
    omega
/-- what DeskZip asks, of a text that isn't too long -/
structure ZipF (l : List UInt8) (K : List Int) (Y Y2 : List (List UInt8)) : Prop where
  one : spl 10 (deskP (l ++ 10 :: zEnd)) = Y ++ [tellT K, tellR K, []]
  two : spl 10 (deskP (anT [] (zT K).pre ++ 10 :: zEnd)) = Y2 ++ [tellT K, tellR K, []]
  y1 : Y.length ≤ 100
  y2 : Y2.length ≤ 100
  len : (zT K).pre.length ≤ 40
  none_ : tellT K = [110, 111, 110, 101] ↔ (zT K).pre = []
theorem tell_none (K : List Int) : tellT K = [110, 111, 110, 101] ↔ (zT K).pre = [] := by
  unfold tellT
  constructor
  · intro h
    cases hp : (zT K).pre with
    | nil => rfl
    | cons x r =>
      exfalso
      rw [hp] at h
      have hj : jnd (x :: r) = dg x.toNat ++ Lib.joinTail [32] (r.map fun x => dg x.toNat) := by
        show Lib.join (dg x.toNat :: r.map fun x => dg x.toNat) [32] = _
        rw [Lib.join_cons]
      cases hd : dg x.toNat with
      | nil => exact dg_ne _ hd
      | cons b t =>
        have hb := dg_digit x.toNat b (by rw [hd]; simp)
        rw [hj, hd] at h
        unfold orN at h
        rw [if_neg (by simp)] at h
        simp only [List.cons_append, List.cons.injEq] at h
        rw [h.1] at hb
        have : (110 : UInt8).toNat = 110 := rfl
        omega
  · intro h
    rw [h]
    rfl
theorem zip_f (l : List UInt8) (h1 : l.length ≤ 4000) (h2 : (dln l).length ≤ 40) : ∃ K Y Y2, ZipF l K Y Y2 := by
  have hd1 : dln (l ++ 10 :: zEnd) = dln l ++ zLs := by rw [dln_lf, zEnd_dln]
  have hops := dSt_len (dln l) []
  have hgr := runR_grow (dSt [] (dln l))
  obtain ⟨K, hK⟩ : ∃ K, kys (runR (dSt [] (dln l))).1 = K := ⟨_, rfl⟩
  have hR : Rise K := by rw [← hK]; exact rise_kys (chk_runR _)
  have hKl : K.length ≤ 40 := by rw [← hK]; unfold kys; rw [List.length_map]; simp at hops; omega
  have hks : (zT K).ks = K := by
    rw [hp_ks (zT_hp _)]
    unfold zpl
    rw [List.map_map]
    have e : (Prod.fst ∘ fun k : Int => (k, (ht k : Int))) = id := rfl
    rw [e, List.map_id]
  have hpl : (zT K).pre.length ≤ 40 := by rw [pre_length, ← ks_length, hks]; exact hKl
  have hpm : ∀ x, x ∈ (zT K).pre.reverse ↔ x ∈ K := fun x => by rw [List.mem_reverse, mem_pre, hks]
  have hst : dSt [] (putLs (zT K).pre.reverse) = putsOf (zT K).pre.reverse := by
    rw [dSt_puts _ [] (fun k hk => hR.bd k ((hpm k).1 hk)) (by rw [List.length_reverse]; simp; omega)]
    rfl
  have hk2 : kys (runR (dSt [] (putLs (zT K).pre.reverse))).1 = K := by
    rw [hst]
    exact puts_keys hR hpm (by rw [List.length_reverse]; omega)
  have hd2 : dln (anT [] (zT K).pre ++ 10 :: zEnd) = putLs (zT K).pre.reverse ++ zLs := by
    rw [anT_dln, dln_lf, dln_nil, zEnd_dln]
    rfl
  have hpl2 : (putLs (zT K).pre.reverse).length = (zT K).pre.length := by simp [putLs]
  have hal := anT_len (zT K).pre []
  have hz : zEnd.length = 14 := rfl
  have hzl : zLs.length = 2 := rfl
  obtain ⟨Y, hY, hYl⟩ := told_last (dln l)
  obtain ⟨Y2, hY2, hY2l⟩ := told_last (putLs (zT K).pre.reverse)
  rw [hK] at hY
  rw [hk2] at hY2
  refine ⟨K, Y, Y2, ?_, ?_, by omega, by omega, hpl, tell_none K⟩
  · rw [dl_runs (by simp [hz]; omega) (by rw [hd1]; simp [hzl]; omega), hd1]
    exact hY
  · rw [dl_runs (by simp [hz] at hal ⊢; omega) (by rw [hd2]; simp [hzl, hpl2]; omega), hd2]
    exact hY2
end Go.Proofs.YtpnjnedfcdppaaaGreatDoor
