/-
  Joined texts: YtpnjnedfcdppaaaGreatDoorDRef, YtpnjnedfcdppaaaGreatDoorDNl, YtpnjnedfcdppaaaGreatDoorDCountL, YtpnjnedfcdppaaaGreatDoorDFrontL, YtpnjnedfcdppaaaGreatDoorDZipP, YtpnjnedfcdppaaaGreatDoorDZipQ, YtpnjnedfcdppaaaGreatDoorDDig, YtpnjnedfcdppaaaGreatDoorDWords.
-/
import Derived.Test.YtpnjnedfcdppaaaGreatDoorDRefPAll
import Derived.Test.YtpnjnedfcdppaaaGreatDoorDLivesAll
import Derived.Maps.AppendAt
/-
  hedgref.DeskLines.
-/
namespace Go.Proofs.YtpnjnedfcdppaaaGreatDoor
open Go.RowKit

def LnS (w : World) (v : Value) (ws : List (List UInt8)) : Prop :=
  ∃ g c cs fz, v = .slice (some ⟨g, 0, none⟩) ws.length c ∧ w.heap[g]? = some (.cells cs 9 fz) ∧ WS w (some ⟨g, 0, none⟩) ws.length c ws ∧ c ≤ 9223372036854775807
theorem LnS.keep {w w' : World} {v : Value} {ws : List (List UInt8)} (h : LnS w v ws) (hs : w.heap.size ≤ w'.heap.size) (hk : ∀ (k : Nat) (cs : Array Value) (fz : Nat × Nat), w.heap[k]? = some (.cells cs 9 fz) → w'.heap[k]? = w.heap[k]?) : LnS w' v ws := by
  obtain ⟨g, c, cs, fz, e, hc, hw, hb⟩ := h
  have hg := hk g cs fz hc
  refine ⟨g, c, cs, fz, e, hg.trans hc, ⟨hw.len, hw.rd.1, fun hn => ?_⟩, hb⟩
  obtain ⟨b, off, e1, hlt, hcl⟩ := hw.rd.2 hn
  cases e1
  exact ⟨g, 0, rfl, by omega, fun i hi j hj => (World.cell?_of_block (a := ⟨g, 0 + (i * 1 + j), none⟩) hg).trans (hcl i hi j hj)⟩
theorem LnS.below {w w' : World} {v : Value} {ws : List (List UInt8)} (h : LnS w v ws) (hb : Below w.heap.size w w') : LnS w' v ws :=
  h.keep hb.size fun k cs fz hc => hb.block k (Array.getElem?_eq_some_iff.1 hc).1
def LnSR (w : World) (base : Nat) (v : Value) (Ls : List (List (List UInt8))) : Prop :=
  ∃ vals : List Value, vals.length = Ls.length ∧ w.ownsRow base 30 1 v Ls.length vals ∧ ∀ i (hi : i < Ls.length), ∃ u, vals[i]? = some u ∧ LnS w u Ls[i]
theorem LnSR.below {w w' : World} {base : Nat} {v : Value} {Ls : List (List (List UInt8))} (h : LnSR w base v Ls) (hb : Below w.heap.size w w') : LnSR w' base v Ls := by
  obtain ⟨vals, h1, h2, h3⟩ := h
  exact ⟨vals, h1, own_below h2 hb, fun i hi => let ⟨u, a, b⟩ := h3 i hi; ⟨u, a, b.below hb⟩⟩
theorem LnSR.is_ {w : World} {base : Nat} {v : Value} {Ls : List (List (List UInt8))} (h : LnSR w base v Ls) : ∃ A c, v = .slice A Ls.length c ∧ (∀ i (hi : i < Ls.length), ∃ b off u, A = some ⟨b, off, none⟩ ∧ b < w.heap.size ∧ base ≤ b ∧ w.cell? ⟨b, off + i, none⟩ = some u ∧ LnS w u Ls[i]) := by
  obtain ⟨vals, h1, h2, h3⟩ := h
  rcases h2.2 with ⟨e, h0⟩ | ⟨g, cap, cur, e, hb, hc, hn, hm, hsz, htk⟩
  · exact ⟨none, 0, by rw [e, h0], fun i hi => by omega⟩
  · refine ⟨_, cap, e, fun i hi => ?_⟩
    obtain ⟨u, hu, hl⟩ := h3 i hi
    refine ⟨g, 0, u, rfl, (Array.getElem?_eq_some_iff.1 hc).1, hb, ?_, hl⟩
    rw [Nat.zero_add, cell_of_row _ _ _ _ _ _ hc, ← Array.getElem?_toList]
    rw [← htk, List.getElem?_take, if_pos (by omega)] at hu
    exact hu
theorem LnSR.weaken {w : World} {base base' : Nat} {v : Value} {Ls : List (List (List UInt8))} (h : LnSR w base v Ls) (hb : base' ≤ base) : LnSR w base' v Ls := by
  obtain ⟨vals, h1, h2, h3⟩ := h
  refine ⟨vals, h1, ⟨h2.1, ?_⟩, h3⟩
  rcases h2.2 with h0 | ⟨g, cap, cur, e, hg, hr⟩
  · exact .inl h0
  · exact .inr ⟨g, cap, cur, e, Nat.le_trans hb hg, hr⟩
theorem LnSR.more {w w' X : World} {base : Nat} {v v' u : Value} {Ls : List (List (List UInt8))} {ws : List (List UInt8)} {vals : List Value} (h1 : vals.length = Ls.length) (h2 : w.ownsRow base 30 1 v Ls.length vals) (h3 : ∀ i (hi : i < Ls.length), ∃ u, vals[i]? = some u ∧ LnS w u Ls[i])
    (hX : Below w.heap.size w X) (hu : LnS X u ws) (hg : X.grownBy w' v.ownBlock) (hown : w'.ownsRow base 30 1 v' (Ls.length + 1) (vals ++ [u])) : LnSR w' base v' (Ls ++ [ws]) := by
  have hk : ∀ (k : Nat) (cs : Array Value) (fz : Nat × Nat), X.heap[k]? = some (.cells cs 9 fz) → w'.heap[k]? = X.heap[k]? := fun k cs fz hc => by
    refine hg.block k (Array.getElem?_eq_some_iff.1 hc).1 fun e => ?_
    obtain ⟨cs', fz', hc'⟩ := own_row h2 k e.symm
    rw [hX.block k (Array.getElem?_eq_some_iff.1 hc').1, hc'] at hc
    cases hc
  refine ⟨vals ++ [u], by simp [h1], by rw [List.length_append]; exact hown, fun i hi => ?_⟩
  rw [List.length_append, List.length_singleton] at hi
  rcases Nat.lt_or_ge i Ls.length with hlt | hge
  · obtain ⟨u', a, b⟩ := h3 i hlt
    refine ⟨u', by rw [List.getElem?_append_left (by omega)]; exact a, ?_⟩
    rw [List.getElem_append_left hlt]
    exact (b.below hX).keep hg.size hk
  · obtain rfl : i = Ls.length := by omega
    refine ⟨u, by rw [List.getElem?_append_right (by omega), h1, Nat.sub_self]; rfl, ?_⟩
    rw [List.getElem_append_right (Nat.le_refl _)]
    simp only [Nat.sub_self, List.getElem_cons_zero]
    exact hu.keep hg.size hk
def wdK (P : List (List UInt8)) (k : Nat) : List (List UInt8) := (P.take k).filter (fun x => !x.isEmpty)
theorem wdK_some {P : List (List UInt8)} {k : Nat} (hk : k < P.length) {x : List UInt8} (h : P[k] = x) (hne : x ≠ []) : wdK P (k + 1) = wdK P k ++ [x] := by
  unfold wdK
  rw [List.take_succ_eq_append_getElem hk, List.filter_append, h]
  cases x with
  | nil => exact absurd rfl hne
  | cons a t => rfl
theorem wdK_none {P : List (List UInt8)} {k : Nat} (hk : k < P.length) (h : P[k] = []) : wdK P (k + 1) = wdK P k := by
  unfold wdK
  rw [List.take_succ_eq_append_getElem hk, List.filter_append, h]
  simp
theorem wdK_len (P : List (List UInt8)) (k : Nat) : (wdK P k).length ≤ k := by
  unfold wdK
  refine Nat.le_trans (List.length_filter_le _ _) ?_
  rw [List.length_take]
  omega
theorem first_any (l : List UInt8) (w : World) (hl : l.length ≤ 4000000000) (hL : LD w) :
    Calls Tryz.prog 51 #[.string (bsv l), .string (bsv [59]), .int .i64 2] w fun e w' => ∃ n c, e = .returned (.slice (some ⟨w.heap.size, 0, none⟩) (n + 1) c) ∧ w'.cell? ⟨w.heap.size, 0, none⟩ = some (.string (bsv (l.takeWhile (· != 59)))) ∧ Below w.heap.size w w' := by
  obtain ⟨m, hm⟩ := hL.ml
  refine (Tryz.strings_SplitN (bsv l) (bsv [59]) 2 m w (by rw [bsv_size]; omega) hm (by rw [bsv_size]; exact Nat.le_refl 1) (by omega) (by omega)).mono ?_
  rintro e w' ⟨rfl, rfl⟩
  obtain ⟨y, r, hy, hd⟩ := splitB_first (bsv [59]) 59 (by simp) (bsv l)
  rw [hy]
  refine ⟨r.length, _, rfl, ?_, (Below.refl _ _).alloc (Nat.le_refl _) _⟩
  have hc := heap_alloc_new w (.cells (Lib.cellsOf (y :: r) (min 2 ((bsv l).size + 1))) 9)
  rw [cell_of_row _ _ _ _ _ _ hc]
  have hd2 : y = bsv (l.takeWhile (· != 59)) := by
    rw [← bsv_of y, hd, bsv_data]
  rw [hd2]
  simp [Lib.cellsOf]
theorem repl_any (l : List UInt8) (w : World) (hl : l.length ≤ 4000000000) (hL : LD w) :
    Calls Tryz.prog 50 #[.string (bsv l), .string (bsv [9]), .string (bsv [32])] w fun e w' => e = .returned (.string (bsv (l.map t2b))) ∧ Below w.heap.size w w' := by
  obtain ⟨m, hm⟩ := hL.ml
  refine (Tryz.strings_ReplaceAll (bsv l) (bsv [9]) (bsv [32]) m w (by rw [bsv_size]; omega) hm (by rw [bsv_size]; exact Nat.le_refl 1) ?_).mono ?_
  · have h1 := Lib.countB_le (bsv [9]) (by rw [bsv_size]; exact Nat.le_refl 1) _ (bsv l) (Nat.le_refl _)
    rw [bsv_size] at h1 ⊢
    have h2 : (bsv [32]).size = 1 := bsv_size _
    rw [h2]
    omega
  · rintro e w' ⟨rfl, hb⟩
    refine ⟨?_, hb⟩
    rw [bsv_data, bsv_data, bsv_data, rep_t2b]
theorem w_trans {a b c : World} (h : Below a.heap.size a b) (k : Below b.heap.size b c) : Below a.heap.size a c := h.trans (k.mono h.size)
theorem LnS.own {w : World} {B : Nat} {v : Value} {ws : List (List UInt8)} (h : w.ownsRow B 9 1 v ws.length (ws.map fun x => Value.string (bsv x))) (hne : ws ≠ []) : LnS w v ws := by
  rcases h.2 with ⟨_, h0⟩ | ⟨g, cap, cur, e, hb, hc, hn, hm, hsz, htk⟩
  · exact absurd (List.eq_nil_of_length_eq_zero h0) hne
  · refine ⟨g, cap, cur, (0, 0), e, hc, ⟨rfl, hn, fun _ => ⟨g, 0, rfl, (Array.getElem?_eq_some_iff.1 hc).1, fun i hi j hj => ?_⟩⟩, by unfold maxLen at hm; omega⟩
    obtain rfl : j = 0 := by omega
    have e1 : 0 + (i * 1 + 0) = i := by omega
    rw [e1, cell_of_row _ _ _ _ _ _ hc, ← Array.getElem?_toList]
    have h2 : (cur.toList.take (ws.length * 1))[i]? = some (Value.string (bsv (ws[i]))) := by rw [htk, List.getElem?_map, List.getElem?_eq_getElem hi]; rfl
    rw [List.getElem?_take, if_pos (by omega)] at h2
    rw [h2]
    simp [wf, List.getElem?_eq_getElem hi]
theorem own_sl {w : World} {B e s n : Nat} {v : Value} {xs : List Value} (h : w.ownsRow B e s v n xs) : ∃ A c, v = .slice A n c := by
  rcases h.2 with ⟨e, h0⟩ | ⟨g, cap, cur, e, _⟩
  · exact ⟨none, 0, by rw [e, h0]⟩
  · exact ⟨_, cap, e⟩
def RetDL (Ls : List (List (List UInt8))) (w : World) (e : Ending) (w' : World) : Prop := ∃ v, e = .returned (.tuple #[v, I Ls.length]) ∧ LnSR w' w.heap.size v Ls ∧ Below w.heap.size w w'
theorem one_S (x : ByteArray) : ∀ u ∈ [Value.string x], u.oneCell' = true := by
  intro u hu
  rw [List.mem_singleton.1 hu]
  rfl
set_option maxRecDepth 100000 in
set_option maxHeartbeats 8000000 in
theorem DeskLines_any (l : List UInt8) (w : World) (hl : l.length ≤ 1048576) (hL : LD w) :
    Calls Tryz.prog 13 #[.string (bsv l)] w (RetDL (dln l) w) := by
  have HS := Lib.hid (dsplit_any l 10 w (by omega) hL)
  have HLD := Lib.hid hL
  have hPL := spl_length 10 l
  have hPM : ∀ x ∈ spl 10 l, x.length ≤ l.length := fun x hx => spl_mem hx
  obtain ⟨P, hP⟩ : ∃ P, spl 10 l = P := ⟨_, rfl⟩
  have HDL : Hid (dln l = dlnK P P.length) := by show _ = _; unfold dln dlnK; rw [hP, List.take_length]
  rw [hP] at HS hPL hPM
  have hN : P.length ≤ 1048577 := by rw [hPL]; have := List.count_le_length (a := (10 : UInt8)) (l := l); omega
  have HPM : Hid (∀ x ∈ P, x.length ≤ 1048576) := fun x hx => Nat.le_trans (hPM x hx) hl
  obtain ⟨N, hNe⟩ : ∃ N, P.length = N := ⟨_, rfl⟩
  rw [hNe] at HS HDL hN
  have HN := Lib.hid hNe
  obtain ⟨i0, hi, hz0, hz1, hz2⟩ := info_parts strs_info
  have HI := Lib.hid hi
  have HZ0 := Lib.hid hz0
  have HZ1 := Lib.hid hz1
  have HZ2 := Lib.hid hz2
  obtain ⟨j0, hj, hy0, hy1, hy2⟩ := info_parts str_info
  have HJ := Lib.hid hj
  have HY0 := Lib.hid hy0
  have HY1 := Lib.hid hy1
  have HY2 := Lib.hid hy2
  clear hP hPL hPM hL hl hNe hi hz0 hz1 hz2 hj hy0 hy1 hy2
  go_enter Tryz.func13, Tryz.ntmps13
  go_wp2_with fail
  refine HS.out.mono ?_
  rintro e w1 ⟨rfl, hT1, hb1⟩
  have HT1 := Lib.hid hT1
  have HB1 := Lib.hid hb1
  have HLD1 := Lib.hid (HLD.out.next hb1)
  clear hT1 hb1
  go_wp2
  go_loopw [4, 13] (fun sv iv wr => ∃ k : Nat, k ≤ N ∧ iv = .int .i64 k ∧ Hid (LnSR wr w1.heap.size sv (dlnK P k)) ∧ Hid (Below w1.heap.size w1 wr)) (fun _ iv _ => N - (intOf iv).toNat)
  case atStart =>
    refine ⟨0, Nat.zero_le _, rfl, ?_, Below.refl _ _⟩
    show LnSR _ _ _ _
    exact ⟨[], rfl, World.ownsRow_nil _ _ _ _, fun i hi => by cases hi⟩
  case round =>
    obtain ⟨k, hk, rfl, HR, HB⟩ := hrel
    obtain ⟨wo, rfl⟩ : ∃ x, x = wr := ⟨wr, rfl⟩
    obtain ⟨vA, vc, hsv, -⟩ := HR.out.is_
    obtain ⟨vn, hvn⟩ : ∃ n, (dlnK P k).length = n := ⟨_, rfl⟩
    have hvk : vn ≤ k := by rw [← hvn]; exact dlnK_len P k
    rw [hvn] at hsv
    subst hsv
    have HVN := Lib.hid hvn
    clear hvn
    by_cases hkn : k < N
    · have hkl : k < P.length := by rw [HN.out]; exact hkn
      have htr : TBk wo w.heap.size P := HT1.out.below HB.out HT1.out.lt
      have hck := htr.cell k
      rw [List.getElem?_eq_getElem hkl, Option.map_some] at hck
      have hxl := HPM.out _ (List.getElem_mem hkl)
      obtain ⟨x, hx⟩ : ∃ x, P[k] = x := ⟨_, rfl⟩
      have hsome := fun (ws : List (List UInt8)) (h : wds (x.takeWhile (· != 59)) = ws) (hne : ws ≠ []) => dlnK_some hkl (ws := ws) (by rw [hx]; exact h) hne
      have hnone := fun (h : wds (x.takeWhile (· != 59)) = []) => dlnK_none hkl (by rw [hx]; exact h)
      rw [hx] at hck hxl
      have HSO := Lib.hid hsome
      have HNO := Lib.hid hnone
      have HC := Lib.hid (first_any x wo (by omega) (HLD1.out.next HB.out))
      have htw := tw_len x
      obtain ⟨y, hy⟩ : ∃ y, x.takeWhile (· != 59) = y := ⟨_, rfl⟩
      rw [hy] at HC HSO HNO htw
      clear htr hx hsome hnone hy
      go_wp2_with fail
      refine HC.out.mono ?_
      rintro e w2 ⟨n2, c2, rfl, hc2, hb2⟩
      have HBO2 := Lib.hid hb2
      have HB2 := Lib.hid (HB.out.trans (hb2.mono HB.out.size))
      have HLD2 := Lib.hid (HLD1.out.next HB2.out)
      have hn2 : 0 < n2 + 1 := by omega
      clear hb2
      go_wp2_with fail
      refine (repl_any y w2 (by omega) HLD2.out).mono ?_
      rintro e w3 ⟨rfl, hb3⟩
      have HBO3 := Lib.hid (w_trans HBO2.out hb3)
      have HB3 := Lib.hid (HB2.out.trans (hb3.mono HB2.out.size))
      have HLD3 := Lib.hid (HLD1.out.next HB3.out)
      clear hb3
      have hzl : (y.map t2b).length = y.length := List.length_map _
      have hwy : wds y = wdK (spl 32 (y.map t2b)) (spl 32 (y.map t2b)).length := by unfold wdK; rw [List.take_length, wds_spl]
      obtain ⟨z, hz⟩ : ∃ z, y.map t2b = z := ⟨_, rfl⟩
      rw [hz] at hzl hwy ⊢
      have hQL := spl_length 32 z
      have hQc := List.count_le_length (a := (32 : UInt8)) (l := z)
      have HS2 := Lib.hid (dsplit_any z 32 w3 (by omega) HLD3.out)
      obtain ⟨Q, hQ⟩ : ∃ Q, spl 32 z = Q := ⟨_, rfl⟩
      rw [hQ] at HS2 hwy hQL
      obtain ⟨M, hM⟩ : ∃ M, Q.length = M := ⟨_, rfl⟩
      rw [hM] at HS2 hwy hQL
      have hMb : M ≤ 1048577 := by omega
      have HM := Lib.hid hM
      have HWY := Lib.hid hwy
      clear hz hQ hM hwy hQL hQc hzl
      go_wp2_with fail
      refine HS2.out.mono ?_
      rintro e w4 ⟨rfl, hT4, hb4⟩
      have HBO4 := Lib.hid (w_trans HBO3.out hb4)
      have HB4 := Lib.hid (HB3.out.trans (hb4.mono HB3.out.size))
      have HT4 := Lib.hid hT4
      have HR4 := Lib.hid (HR.out.below HBO4.out)
      clear hT4 hb4
      go_wp2
      go_loopw [7, 25] (fun wv iv wr => ∃ q : Nat, q ≤ M ∧ iv = .int .i64 q ∧ Hid (wr.ownsRow w4.heap.size 9 1 wv (wdK Q q).length ((wdK Q q).map fun x => Value.string (bsv x))) ∧ Hid (Below w4.heap.size w4 wr)) (fun _ iv _ => M - (intOf iv).toNat)
      case atStart => exact ⟨0, Nat.zero_le _, rfl, World.ownsRow_nil _ _ _ _, Below.refl _ _⟩
      case round =>
        obtain ⟨q, hq, rfl, HO, HBQ⟩ := hrel
        by_cases hqm : q < M
        · have hql : q < Q.length := by rw [HM.out]; exact hqm
          have htq : TBk wr w3.heap.size Q := HT4.out.below HBQ.out HT4.out.lt
          have hcq := htq.cell q
          rw [List.getElem?_eq_getElem hql, Option.map_some] at hcq
          obtain ⟨u, hu⟩ : ∃ u, Q[q] = u := ⟨_, rfl⟩
          rw [hu] at hcq
          have hsz := HBQ.out.size
          obtain ⟨X, hX⟩ : ∃ X, wdK Q q = X := ⟨_, rfl⟩
          have hXl : X.length ≤ q := by rw [← hX]; exact wdK_len Q q
          by_cases hu0 : u = []
          · have hue : u.isEmpty = true := by rw [hu0]; rfl
            have HE : Hid (wdK Q (q + 1) = X) := by show _ = _; rw [← hX]; exact wdK_none hql (by rw [hu, hu0])
            rw [hX] at HO
            clear htq hu hu0 hX
            go_wp2
            go_roundw
            case rel => exact ⟨q + 1, by omega, by go_num, by rw [HE.out]; exact HO, HBQ.out⟩
            case measure => simp [intOf]; omega
          · have hue : u.isEmpty = false := by cases u with | nil => exact absurd rfl hu0 | cons a t => rfl
            have HE : Hid (wdK Q (q + 1) = X ++ [u]) := by show _ = _; rw [← hX]; exact wdK_some hql hu hu0
            rw [hX] at HO
            clear htq hu hu0 hX
            go_wp2_with (first
              | (at_builtin
                 refine wpList_append_own_at _ rfl (.tmp 31) (.tmp 33) 30 rfl w4.heap.size 9 j0 _ 1 16 Tryz.underlying30 HJ.out HY0.out HY1.out HY2.out rfl (by omega) _ X.length (X.map fun x => Value.string (bsv x)) rfl (own_below HO.out ((Below.refl _ _).alloc (Nat.le_refl _) _)) ⟨wr.heap.size, 0, none⟩ 1 1 [.string (bsv u)] rfl rfl (cell_one_new _ _ _) (one_S _) (by unfold maxLen; omega) (by omega) (by simp; omega) ?_
                 intro v5 w5 hown5 hgrow5 _ hat5)
              | fail)
            go_roundw
            case rel =>
              refine ⟨q + 1, by omega, by go_num, ?_, ?_⟩
              · show World.ownsRow _ _ _ _ _ _ _
                rw [HE.out, List.length_append, List.length_singleton, List.map_append]
                exact hown5
              · exact Below.grown (HBQ.out.alloc hsz _) hgrow5 (by simp; omega) (own_ge1 HO.out)
            case measure => simp [intOf]; omega
        · obtain rfl : q = M := by omega
          rw [← HWY.out] at HO
          obtain ⟨ws, hws⟩ : ∃ ws, wds y = ws := ⟨_, rfl⟩
          have HWS := Lib.hid hws
          rw [hws] at HO
          obtain ⟨m, hm⟩ : ∃ m, ws.length = m := ⟨_, rfl⟩
          have HMM := Lib.hid hm
          have HRQ := Lib.hid (HR4.out.below HBQ.out)
          have HBB := Lib.hid (HB4.out.trans (HBQ.out.mono HB4.out.size))
          clear hws
          rw [hm] at HO
          obtain ⟨A7, c7, rfl⟩ := own_sl HO.out
          by_cases h0 : m = 0
          · subst h0
            have hnil : ws = [] := List.eq_nil_of_length_eq_zero hm
            have HE : Hid (dlnK P (k + 1) = dlnK P k) := Lib.hid (HNO.out (by rw [HWS.out, hnil]))
            clear hm hnil
            go_wp2
            go_roundw
            case rel => exact ⟨k + 1, by omega, by go_num, by show LnSR _ _ _ _; rw [HE.out]; exact HRQ.out, HBB.out⟩
            case measure => simp [intOf]; omega
          · have h0i : decide (0 < m) = true := by simp; omega
            have h0p : 0 < m := by omega
            have hwne : ws ≠ [] := by intro e; rw [e] at hm; simp at hm; omega
            have HE : Hid (dlnK P (k + 1) = dlnK P k ++ [ws]) := Lib.hid (HSO.out ws HWS.out hwne)
            have HLN := Lib.hid (LnS.own (by rw [hm]; exact HO.out) hwne)
            obtain ⟨vals, hv1, hv2, hv3⟩ := HRQ.out
            have HV1 := Lib.hid hv1
            have HV3 := Lib.hid hv3
            have HVO := Lib.hid hv2
            rw [HVN.out] at hv2
            have HV2 := Lib.hid hv2
            clear hv1 hv2 hv3 h0 hm hwne
            go_wp2_with (first
              | (at_builtin
                 refine wpList_append_own_at _ rfl (.tmp 39) (.tmp 41) 24 rfl w1.heap.size 30 i0 _ 1 24 Tryz.underlying24 HI.out HZ0.out HZ1.out HZ2.out rfl (by omega) _ vn vals rfl (own_below HV2.out ((Below.refl _ _).alloc (Nat.le_refl _) _)) ⟨wr.heap.size, 0, none⟩ 1 1 [.slice A7 m c7] rfl rfl (slice_one wr _ m c7 _) (fun u hu => by rw [List.mem_singleton.mp hu]; rfl) (by unfold maxLen; omega) (by omega) (by rw [World.size_alloc]; have := HBB.out.size; omega) ?_
                 intro v4 w9 hown4 hgrow4 _ hat4)
              | fail)
            go_roundw
            case rel =>
              refine ⟨k + 1, by omega, by go_num, ?_, ?_⟩
              · show LnSR _ _ _ _
                rw [HE.out]
                exact LnSR.more HV1.out HVO.out HV3.out ((Below.refl _ _).alloc (Nat.le_refl _) _) (HLN.out.below ((Below.refl _ _).alloc (Nat.le_refl _) _)) hgrow4 (by rw [HVN.out]; exact hown4)
              · exact Below.grown (HBB.out.alloc HBB.out.size _) hgrow4 (by rw [World.size_alloc]; have := HBB.out.size; omega) (own_ge1 HV2.out)
            case measure => simp [intOf]; omega
    · obtain rfl : N = k := by omega
      have HR2 := HR.out
      rw [← HDL.out] at HR2 HVN
      have HRR := Lib.hid HR2
      clear HR2
      go_wp2
      go_ret2
      exact ⟨.slice vA vn vc, by rw [HVN.out]; rfl, HRR.out.weaken HB1.out.size, HB1.out.trans (HB.out.mono HB1.out.size)⟩
end Go.Proofs.YtpnjnedfcdppaaaGreatDoor

/-
  The desk's answers have no line feed of their own: plain. No program is walked.
-/
namespace Go.Proofs.YtpnjnedfcdppaaaGreatDoor

def nn (l : List UInt8) : Prop := ∀ b ∈ l, b ≠ 10
instance (l : List UInt8) : Decidable (nn l) := by unfold nn; infer_instance
end Go.Proofs.YtpnjnedfcdppaaaGreatDoor

/-
  DeskCounts, walked.
-/
namespace Go.Proofs.YtpnjnedfcdppaaaGreatDoor
open Go.RowKit

theorem dl_lim {l : List UInt8} (h : 8192 < l.length ∨ 100 < (dln l).length) : deskP l = [101, 114, 114, 111, 114, 32, 50, 10] := by
  unfold deskP
  split
  · decide
  · rename_i h1
    rw [if_pos (by omega)]
    decide
theorem dl_runs {l : List UInt8} (h1 : l.length ≤ 8192) (h2 : (dln l).length ≤ 100) : deskP l = dRunL [] (dln l) := by
  unfold deskP
  rw [if_neg (by omega), if_neg (by omega)]
theorem tr2 {a b c : World} (h : Below a.heap.size a b) (k : Below b.heap.size b c) : Below a.heap.size a c := h.trans (k.mono h.size)
end Go.Proofs.YtpnjnedfcdppaaaGreatDoor

/-
  DeskFront, walked.
-/
namespace Go.Proofs.YtpnjnedfcdppaaaGreatDoor
open Go.RowKit

/- more lines only go on: plain -/
end Go.Proofs.YtpnjnedfcdppaaaGreatDoor

/-
  What DeskZip wants: the keys told, put anew, lead to the same keys: plain. No program is walked.
-/
namespace Go.Proofs.YtpnjnedfcdppaaaGreatDoor

/- a text, parted at a byte -/
theorem spl_at (c : UInt8) : ∀ (a b : List UInt8), spl c (a ++ c :: b) = spl c a ++ spl c b
  | [], b => by simp [spl]
  | x :: t, b => by
    have ih := spl_at c t b
    rw [List.cons_append, spl, spl, ih]
    by_cases hx : (x == c) = true
    · rw [if_pos hx, if_pos hx]; rfl
    · rw [if_neg hx, if_neg hx]
      cases hs : spl c t with
      | nil => exact absurd hs (spl_ne c t)
      | cons y r => rfl
theorem spl_no (c : UInt8) : ∀ {l : List UInt8}, (∀ b ∈ l, b ≠ c) → spl c l = [l]
  | [], _ => rfl
  | x :: t, h => by
    have hx : (x == c) = false := by simpa using h x (by simp)
    rw [spl, hx, spl_no c (l := t) fun b hb => h b (by simp [hb])]
    rfl
end Go.Proofs.YtpnjnedfcdppaaaGreatDoor

/-
  What DeskZip wants: numbers told and read again; keys put in whatever order: plain. No program is walked.
-/
namespace Go.Proofs.YtpnjnedfcdppaaaGreatDoor

/- numbers: told, then read -/
theorem nmA_app : ∀ (a b : List UInt8) (v : Nat), nmA v (a ++ b) = (nmA v a).bind fun x => nmA x b
  | [], b, v => rfl
  | x :: t, b, v => by
    rw [List.cons_append, nmA, nmA]
    split
    · exact nmA_app t b _
    · rfl
/- a digit is no blank, no tab, no semicolon, no line feed -/
theorem dgF_digit : ∀ (f k : Nat), ∀ b ∈ dgF f k, 48 ≤ b.toNat ∧ b.toNat ≤ 57
  | 0, _, b, h => by cases h
  | f + 1, k, b, h => by
    rw [dgF] at h
    have key : ∀ d, d < 10 → b ∈ [UInt8.ofNat (48 + d)] → 48 ≤ b.toNat ∧ b.toNat ≤ 57 := fun d hd hb => by
      rw [List.mem_singleton.1 hb]
      have e : (UInt8.ofNat (48 + d)).toNat = 48 + d := by simp; omega
      rw [e]
      omega
    split at h
    · next h1 => exact key k h1 h
    · rcases List.mem_append.1 h with h | h
      · exact dgF_digit f _ b h
      · exact key _ (Nat.mod_lt _ (by omega)) h
theorem dg_digit (k : Nat) : ∀ b ∈ dg k, 48 ≤ b.toNat ∧ b.toNat ≤ 57 := dgF_digit 20 k
theorem dg_not (k : Nat) (c : UInt8) (hc : c.toNat < 48 ∨ 57 < c.toNat) : ∀ b ∈ dg k, b ≠ c := fun b hb e => by
  have := dg_digit k b hb
  rw [e] at this
  omega
theorem dg_ne (k : Nat) : dg k ≠ [] := by
  unfold dg
  rw [dgF]
  split
  · simp
  · simp
theorem spl_tail (c : UInt8) : ∀ (r : List (List UInt8)) (x : List UInt8), (∀ y ∈ x :: r, ∀ b ∈ y, b ≠ c) → spl c (x ++ Lib.joinTail [c] r) = x :: r
  | [], x, h => by
    show spl c (x ++ []) = _
    rw [List.append_nil]
    exact spl_no c (h x (by simp))
  | y :: r, x, h => by
    have e : x ++ Lib.joinTail [c] (y :: r) = x ++ c :: (y ++ Lib.joinTail [c] r) := by simp [Lib.joinTail]
    rw [e, spl_at, spl_no c (h x (by simp)), spl_tail c r y fun z hz => h z (by simp [List.mem_cons.1 hz])]
    rfl
theorem spl_jnd {l : List Int} (h : l ≠ []) : spl 32 (jnd l) = l.map fun x => dg x.toNat := by
  cases l with
  | nil => exact absurd rfl h
  | cons x r =>
    show spl 32 (Lib.join (dg x.toNat :: r.map fun x => dg x.toNat) [32]) = _
    rw [Lib.join_cons, spl_tail]
    · rfl
    · intro y hy
      have hy' : y ∈ (x :: r).map fun x => dg x.toNat := hy
      obtain ⟨k, _, rfl⟩ := List.mem_map.1 hy'
      exact dg_not _ 32 (by decide)
/- a line that puts a key -/
end Go.Proofs.YtpnjnedfcdppaaaGreatDoor

/-
  hedgref.Digits.
-/
namespace Go.Proofs.YtpnjnedfcdppaaaGreatDoor
open Go.RowKit

theorem dig_one : ∀ n : Nat, n < 10 → (⟨#[48, 49, 50, 51, 52, 53, 54, 55, 56, 57]⟩ : ByteArray).extract n (n + 1) = bsv (dg n) := by decide +kernel
theorem dgF_more {f k : Nat} (h : k < 10 ^ (f + 1)) : dgF (f + 2) k = dgF (f + 1) k := by
  rw [dgF_dec (f + 1) k (by rw [Nat.pow_succ]; omega), dgF_dec f k h]
theorem dg_step {n : Nat} (h : 10 ≤ n) (h2 : n < 10 ^ 18) : dg n = dg (n / 10) ++ dg (n % 10) := by
  have e1 : dg n = dgF 19 (n / 10) ++ [UInt8.ofNat (48 + n % 10)] := by
    show dgF (19 + 1) n = _
    rw [dgF, if_neg (by omega)]
  have e2 : dg (n / 10) = dgF 19 (n / 10) := dgF_more (f := 18) (by omega)
  have e3 : dg (n % 10) = [UInt8.ofNat (48 + n % 10)] := by
    show dgF (19 + 1) (n % 10) = _
    rw [dgF, if_pos (Nat.mod_lt _ (by omega))]
  rw [e1, e2, e3]
set_option maxRecDepth 100000 in
theorem Digits_any : ∀ (m n : Nat), n ≤ m → n < 10 ^ 18 → ∀ w : World, Calls Tryz.prog 104 #[I n] w fun e w' => e = .returned (.string (bsv (dg n))) ∧ w = w' := by
  intro m
  induction m with
  | zero =>
    intro n hn h18 w
    obtain rfl : n = 0 := by omega
    have hd := Lib.hid (dig_one 0 (by omega))
    go_enter Tryz.func104, Tryz.ntmps104
    go_wp2
    go_ret
    exact ⟨rfl, rfl⟩
  | succ m ih =>
    intro n hn h18 w
    rcases Nat.lt_or_ge n 10 with h | h
    · have hd := Lib.hid (dig_one n h)
      have f1 : (n : Int) < 10 := by omega
      go_enter Tryz.func104, Tryz.ntmps104
      go_wp2
      go_ret
      exact ⟨congrArg (fun s => Ending.returned (.string s)) hd.out, rfl⟩
    · have f1 : ¬ (n : Int) < 10 := by omega
      have H1 := Lib.hid (ih (n / 10) (by omega) (by omega))
      have H2 := Lib.hid (ih (n % 10) (by omega) (by omega))
      have HS := Lib.hid (dg_step h h18)
      have t1 : (n : Int).tdiv 10 = ((n / 10 : Nat) : Int) := by rw [Int.tdiv_eq_ediv_of_nonneg (by omega)]; omega
      have t2 : (n : Int).tmod 10 = ((n % 10 : Nat) : Int) := by rw [Int.tmod_eq_emod_of_nonneg (by omega)]; omega
      obtain ⟨a, ha⟩ : ∃ a, n / 10 = a := ⟨_, rfl⟩
      obtain ⟨b, hb⟩ : ∃ b, n % 10 = b := ⟨_, rfl⟩
      have u1 : wrap64 (a : Int) = (a : Int) := IntWalk.wrap64_in _ ⟨by omega, by omega⟩
      have u2 : wrap64 (b : Int) = (b : Int) := IntWalk.wrap64_in _ ⟨by omega, by omega⟩
      rw [ha] at H1 HS t1
      rw [hb] at H2 HS t2
      have hsa : (bsv (dg a)).size = (dg a).length := bsv_size _
      have hsb : (bsv (dg b)).size = (dg b).length := bsv_size _
      have la := dg_len a
      have lb := dg_len b
      have hc : ¬ (9223372036854775807 < (dg a).length + (dg b).length) := by omega
      clear ih ha hb
      go_enter Tryz.func104, Tryz.ntmps104
      go_wp2_with fail
      refine (H1.out _).mono ?_
      rintro e w1 ⟨rfl, rfl⟩
      go_wp2_with fail
      refine (H2.out _).mono ?_
      rintro e w2 ⟨rfl, rfl⟩
      go_wp2
      go_ret
      exact ⟨congrArg (fun s => Ending.returned (.string s)) (by rw [HS.out]; exact bsv_app _ _), rfl⟩
end Go.Proofs.YtpnjnedfcdppaaaGreatDoor

/-
  hedgref.wordsOf.
-/
namespace Go.Proofs.YtpnjnedfcdppaaaGreatDoor
open Go.RowKit

theorem jnd_ne {l : List Int} (h : l ≠ []) : jnd l ≠ [] := fun e => by
  have := congrArg (spl 32) e
  rw [spl_jnd h] at this
  cases l with
  | nil => exact h rfl
  | cons x r =>
    simp only [List.map_cons] at this
    exact dg_ne _ (List.cons.inj this).1
theorem join_own {w : World} {B : Nat} {v : Value} {ws : List (List UInt8)} (h : w.ownsRow B 9 1 v ws.length (ws.map fun x => Value.string (bsv x))) (hne : ws ≠ []) (sep : List UInt8) (hn : ws.length ≤ 1000000) (hl : (Lib.join ws sep).length ≤ 140737488355328) :
    ∃ A c, v = .slice A ws.length c ∧ Calls Tryz.prog 109 #[.slice A ws.length c, .string (bsv sep)] w fun e w' => e = .returned (.string (bsv (Lib.join ws sep))) ∧ Below w.heap.size w w' := by
  obtain ⟨g, c, cs, fz, e, hc, hw, hcap⟩ := LnS.own h hne
  refine ⟨_, c, e, ?_⟩
  obtain ⟨b, off, e1, hlt, hcl⟩ := hw.at_ (List.length_pos_iff.2 hne)
  cases e1
  have hm : (ws.map bsv).map (·.data.toList) = ws := by
    rw [List.map_map]
    have : ((fun x : ByteArray => x.data.toList) ∘ bsv) = id := by funext x; simp
    rw [this, List.map_id]
  have hj := Tryz.strings_Join g 0 c (ws.map bsv) (bsv sep) w (fun j x hx => by
    rw [List.getElem?_map] at hx
    cases hg : ws[j]? with
    | none => rw [hg] at hx; cases hx
    | some y =>
      rw [hg] at hx
      cases hx
      obtain ⟨hj, hy⟩ := List.getElem?_eq_some_iff.1 hg
      rw [hcl j hj, hy]) hlt (by rw [List.length_map]; omega) (by rw [List.length_map]; exact hw.rd.1) (by rw [hm, bsv_data]; exact hl)
  rw [hm, bsv_data, List.length_map] at hj
  exact hj
set_option maxRecDepth 100000 in
set_option maxHeartbeats 4000000 in
theorem wordsOf_any (A : Option Addr) (n c : Nat) (l : List Int) (w : World) (h : IS w A n c l) (hn : n ≤ 3000) (hb : ∀ x ∈ l, 0 ≤ x ∧ x < 1000000000) : Calls Tryz.prog 108 #[.slice A n c] w fun e w' => e = .returned (.string (bsv (orN (jnd l)))) ∧ Below w.heap.size w w' := by
  have H := Lib.hid h
  have HN := Lib.hid h.len
  have HBD := Lib.hid hb
  obtain ⟨j0, hj, hy0, hy1, hy2⟩ := info_parts str_info
  have HJ := Lib.hid hj
  have HY0 := Lib.hid hy0
  have HY1 := Lib.hid hy1
  have HY2 := Lib.hid hy2
  clear h hb hj hy0 hy1 hy2
  go_enter Tryz.func108, Tryz.ntmps108
  go_wp2
  go_loopw [3, 8] (fun v iv wr => ∃ k : Nat, k ≤ n ∧ iv = .int .i64 k ∧ Hid (wr.ownsRow w.heap.size 9 1 v k (((l.take k).map fun x => dg x.toNat).map fun x => Value.string (bsv x))) ∧ Hid (Below w.heap.size w wr)) (fun _ iv _ => n - (intOf iv).toNat)
  case atStart => exact ⟨0, Nat.zero_le _, rfl, World.ownsRow_nil _ _ _ _, Below.refl _ _⟩
  case round =>
    obtain ⟨k, hk, rfl, HO, HB⟩ := hrel
    by_cases hkn : k < n
    · have hkl : k < l.length := by rw [HN.out]; exact hkn
      obtain ⟨b, off, rfl, hbw, hcs⟩ := H.out.at_ (by omega)
      have hx0 := HBD.out l[k] (List.getElem_mem hkl)
      obtain ⟨x, hx⟩ : ∃ x : Nat, l[k] = x := ⟨l[k].toNat, by omega⟩
      have hc0 : wr.cell? ⟨b, off + k, none⟩ = some (I x) := by rw [← hx]; exact (HB.out.cell (by exact hbw)).trans (hcs k hkn)
      have HTK : Hid (((l.take (k + 1)).map fun x => dg x.toNat).map (fun x => Value.string (bsv x)) = ((l.take k).map fun x => dg x.toNat).map (fun x => Value.string (bsv x)) ++ [.string (bsv (dg x))]) := by
        show _ = _
        rw [List.take_succ_eq_append_getElem hkl, hx]
        simp
      have HD := Lib.hid (Digits_any x x (Nat.le_refl _) (by omega) wr)
      have hsz := HB.out.size
      clear hcs hx hx0
      go_wp2_with fail
      refine HD.out.mono ?_
      rintro e w1 ⟨rfl, rfl⟩
      go_wp2_with (first
        | (at_builtin
           refine wpList_append_own_at _ rfl (.tmp 12) (.tmp 15) 30 rfl w.heap.size 9 j0 _ 1 16 Tryz.underlying30 HJ.out HY0.out HY1.out HY2.out rfl (by omega) _ k _ rfl (own_below HO.out ((Below.refl _ _).alloc (Nat.le_refl _) _)) ⟨wr.heap.size, 0, none⟩ 1 1 [.string (bsv (dg x))] rfl rfl (cell_one_new _ _ _) (one_S _) (by unfold maxLen; omega) (by omega) (by simp; omega) ?_
           intro v5 w5 hown5 hgrow5 _ hat5)
        | fail)
      go_roundw
      case rel =>
        refine ⟨k + 1, by omega, by go_num, ?_, ?_⟩
        · show World.ownsRow _ _ _ _ _ _ _
          rw [HTK.out]
          exact hown5
        · exact Below.grown (HB.out.alloc hsz _) hgrow5 (by simp; omega) (own_ge1 HO.out)
      case measure => simp [intOf]; omega
    · obtain rfl : k = n := by omega
      have htk : l.take k = l := List.take_of_length_le (by rw [HN.out]; exact Nat.le_refl _)
      rw [htk] at HO
      rcases Nat.eq_zero_or_pos k with h0 | h0
      · subst h0
        obtain ⟨A7, c7, rfl⟩ := own_sl HO.out
        have hl0 : l = [] := List.eq_nil_of_length_eq_zero HN.out
        have HL0 := Lib.hid hl0
        clear htk hl0
        go_wp2
        go_ret
        exact ⟨by rw [HL0.out]; rfl, HB.out⟩
      · have hne : l ≠ [] := by intro e; have := HN.out; rw [e] at this; simp at this; omega
        have hml : (l.map fun x => dg x.toNat).length = k := by rw [List.length_map]; exact HN.out
        obtain ⟨A7, c7, hv, hj⟩ := join_own (ws := l.map fun x => dg x.toNat) (by rw [hml]; exact HO.out) (by intro e; exact hne (List.map_eq_nil_iff.1 e)) [32] (by omega) (by have := jnd_len (l := l) (by rw [HN.out]; exact hn); show (jnd l).length ≤ _; omega)
        rw [hml] at hv hj
        subst hv
        have HJN := Lib.hid hj
        have HOR : Hid (orN (jnd l) = Lib.join (l.map fun x => dg x.toNat) [32]) := by show _ = _; unfold orN; rw [if_neg (jnd_ne hne)]; rfl
        have f0 : ¬ ((k : Int) = 0) := by omega
        clear hj htk hne hml
        go_wp2_with fail
        refine HJN.out.mono ?_
        rintro e w1 ⟨rfl, hb1⟩
        have HB1 := Lib.hid (tr2 HB.out hb1)
        clear hb1
        go_wp2
        go_ret
        exact ⟨by rw [HOR.out]; rfl, HB1.out⟩
end Go.Proofs.YtpnjnedfcdppaaaGreatDoor
