/-
  hedgref.DeskLines.
-/
import Derived.Test.YtpnjnedfcdppaaaGreatDoorDRefP
import Derived.Test.YtpnjnedfcdppaaaGreatDoorDLivesAll
import Derived.Maps.AppendAt
namespace Go.Proofs.YtpnjnedfcdppaaaGreatDoor
open Go.RowKit

/-- a line's words, in a block of texts -/
def LnS (w : World) (v : Value) (ws : List (List UInt8)) : Prop :=
  ∃ g c cs fz, v = .slice (some ⟨g, 0, none⟩) ws.length c ∧ w.heap[g]? = some (.cells cs 9 fz) ∧ WS w (some ⟨g, 0, none⟩) ws.length c ws ∧ c ≤ 9223372036854775807
theorem LnS.keep {w w' : World} {v : Value} {ws : List (List UInt8)} (h : LnS w v ws) (hs : w.heap.size ≤ w'.heap.size) (hk : ∀ (k : Nat) (cs : Array Value) (fz : Nat × Nat), w.heap[k]? = some (.cells cs 9 fz) → w'.heap[k]? = w.heap[k]?) : LnS w' v ws := by
  obtain ⟨g, c, cs, fz, e, hc, hw, hb⟩ := h
  have hg := hk g cs fz hc
  refine ⟨g, c, cs, fz, e, hg.trans hc, ⟨hw.len, hw.rd.1, fun hn => ?_⟩, hb⟩
  obtain ⟨b, off, e1, hlt, hcl⟩ := hw.rd.2 hn
  cases e1
  exact ⟨g, 0, rfl, by omega, fun i hi j hj => (World.cell?_of_block (a := ⟨g, 0 + (i * 1 + j), none⟩) hg).trans (hcl i hi j hj)⟩
theorem LnS.below {w w' : World} {v : Value} {ws : List (List UInt8)} (h : LnS w v ws) (hb : Below w.heap.size w w') : LnS w' v ws :=
  h.keep hb.size fun k cs fz hc => hb.block k (Array.getElem?_eq_some_iff.1 hc).1
/-- a row of lines of the call's own -/
def LnSR (w : World) (base : Nat) (v : Value) (Ls : List (List (List UInt8))) : Prop :=
  ∃ vals : List Value, vals.length = Ls.length ∧ w.ownsRow base 30 1 v Ls.length vals ∧ ∀ i (hi : i < Ls.length), ∃ u, vals[i]? = some u ∧ LnS w u Ls[i]
theorem LnSR.below {w w' : World} {base : Nat} {v : Value} {Ls : List (List (List UInt8))} (h : LnSR w base v Ls) (hb : Below w.heap.size w w') : LnSR w' base v Ls := by
  obtain ⟨vals, h1, h2, h3⟩ := h
  exact ⟨vals, h1, own_below h2 hb, fun i hi => let ⟨u, a, b⟩ := h3 i hi; ⟨u, a, b.below hb⟩⟩
theorem LnSR.is_ {w : World} {base : Nat} {v : Value} {Ls : List (List (List UInt8))} (h : LnSR w base v Ls) : ∃ A c, v = .slice A Ls.length c ∧ (∀ i (hi : i < Ls.length), ∃ b off u, A = some ⟨b, off, none⟩ ∧ b < w.heap.size ∧ base ≤ b ∧ w.cell? ⟨b, off + i, none⟩ = some u ∧ LnS w u Ls[i]) := by
  obtain ⟨vals, h1, h2, h3⟩ := h
  rcases h2.2 with ⟨e, h0⟩ | ⟨g, cap, cur, e, hb, hc, hn, hm, hsz, htk⟩
  · exact ⟨none, 0, by rw [e, h0], fun i hi => by omega⟩
  · refine ⟨_, cap, e, fun i hi => ?_⟩
    obtain ⟨u, hu, hl⟩ := h3 i hi
    refine ⟨g, 0, u, rfl, (Array.getElem?_eq_some_iff.1 hc).1, hb, ?_, hl⟩
    rw [Nat.zero_add, cell_of_row _ _ _ _ _ _ hc, ← Array.getElem?_toList]
    rw [← htk, List.getElem?_take, if_pos (by omega)] at hu
    exact hu
theorem LnSR.weaken {w : World} {base base' : Nat} {v : Value} {Ls : List (List (List UInt8))} (h : LnSR w base v Ls) (hb : base' ≤ base) : LnSR w base' v Ls := by
  obtain ⟨vals, h1, h2, h3⟩ := h
  refine ⟨vals, h1, ⟨h2.1, ?_⟩, h3⟩
  rcases h2.2 with h0 | ⟨g, cap, cur, e, hg, hr⟩
  · exact .inl h0
  · exact .inr ⟨g, cap, cur, e, Nat.le_trans hb hg, hr⟩
/-- one line more -/
theorem LnSR.more {w w' X : World} {base : Nat} {v v' u : Value} {Ls : List (List (List UInt8))} {ws : List (List UInt8)} {vals : List Value} (h1 : vals.length = Ls.length) (h2 : w.ownsRow base 30 1 v Ls.length vals) (h3 : ∀ i (hi : i < Ls.length), ∃ u, vals[i]? = some u ∧ LnS w u Ls[i])
    (hX : Below w.heap.size w X) (hu : LnS X u ws) (hg : X.grownBy w' v.ownBlock) (hown : w'.ownsRow base 30 1 v' (Ls.length + 1) (vals ++ [u])) : LnSR w' base v' (Ls ++ [ws]) := by
  have hk : ∀ (k : Nat) (cs : Array Value) (fz : Nat × Nat), X.heap[k]? = some (.cells cs 9 fz) → w'.heap[k]? = X.heap[k]? := fun k cs fz hc => by
    refine hg.block k (Array.getElem?_eq_some_iff.1 hc).1 fun e => ?_
    obtain ⟨cs', fz', hc'⟩ := own_row h2 k e.symm
    rw [hX.block k (Array.getElem?_eq_some_iff.1 hc').1, hc'] at hc
    cases hc
  refine ⟨vals ++ [u], by simp [h1], by rw [List.length_append]; exact hown, fun i hi => ?_⟩
  rw [List.length_append, List.length_singleton] at hi
  rcases Nat.lt_or_ge i Ls.length with hlt | hge
  · obtain ⟨u', a, b⟩ := h3 i hlt
    refine ⟨u', by rw [List.getElem?_append_left (by omega)]; exact a, ?_⟩
    rw [List.getElem_append_left hlt]
    exact (b.below hX).keep hg.size hk
  · obtain rfl : i = Ls.length := by omega
    refine ⟨u, by rw [List.getElem?_append_right (by omega), h1, Nat.sub_self]; rfl, ?_⟩
    rw [List.getElem_append_right (Nat.le_refl _)]
    simp only [Nat.sub_self, List.getElem_cons_zero]
    exact hu.keep hg.size hk
/-- words so far -/
def wdK (P : List (List UInt8)) (k : Nat) : List (List UInt8) := (P.take k).filter (fun x => !x.isEmpty)
theorem wdK_some {P : List (List UInt8)} {k : Nat} (hk : k < P.length) {x : List UInt8} (h : P[k] = x) (hne : x ≠ []) : wdK P (k + 1) = wdK P k ++ [x] := by
  unfold wdK
  rw [List.take_succ_eq_append_getElem hk, List.filter_append, h]
  cases x with
  | nil => exact absurd rfl hne
  | cons a t => rfl
theorem wdK_none {P : List (List UInt8)} {k : Nat} (hk : k < P.length) (h : P[k] = []) : wdK P (k + 1) = wdK P k := by
  unfold wdK
  rw [List.take_succ_eq_append_getElem hk, List.filter_append, h]
  simp
theorem wdK_len (P : List (List UInt8)) (k : Nat) : (wdK P k).length ≤ k := by
  unfold wdK
  refine Nat.le_trans (List.length_filter_le _ _) ?_
  rw [List.length_take]
  omega
theorem first_any (l : List UInt8) (w : World) (hl : l.length ≤ 4000000000) (hL : LD w) :
    Calls Tryz.prog 51 #[.string (bsv l), .string (bsv [59]), .int .i64 2] w fun e w' => ∃ n c, e = .returned (.slice (some ⟨w.heap.size, 0, none⟩) (n + 1) c) ∧ w'.cell? ⟨w.heap.size, 0, none⟩ = some (.string (bsv (l.takeWhile (· != 59)))) ∧ Below w.heap.size w w' := by
  obtain ⟨m, hm⟩ := hL.ml
  refine (Tryz.strings_SplitN (bsv l) (bsv [59]) 2 m w (by rw [bsv_size]; omega) hm (by rw [bsv_size]; exact Nat.le_refl 1) (by omega) (by omega)).mono ?_
  rintro e w' ⟨rfl, rfl⟩
  obtain ⟨y, r, hy, hd⟩ := splitB_first (bsv [59]) 59 (by simp) (bsv l)
  rw [hy]
  refine ⟨r.length, _, rfl, ?_, (Below.refl _ _).alloc (Nat.le_refl _) _⟩
  have hc := heap_alloc_new w (.cells (Lib.cellsOf (y :: r) (min 2 ((bsv l).size + 1))) 9)
  rw [cell_of_row _ _ _ _ _ _ hc]
  have hd2 : y = bsv (l.takeWhile (· != 59)) := by
    rw [← bsv_of y, hd, bsv_data]
  rw [hd2]
  simp [Lib.cellsOf]
theorem repl_any (l : List UInt8) (w : World) (hl : l.length ≤ 4000000000) (hL : LD w) :
    Calls Tryz.prog 50 #[.string (bsv l), .string (bsv [9]), .string (bsv [32])] w fun e w' => e = .returned (.string (bsv (l.map t2b))) ∧ Below w.heap.size w w' := by
  obtain ⟨m, hm⟩ := hL.ml
  refine (Tryz.strings_ReplaceAll (bsv l) (bsv [9]) (bsv [32]) m w (by rw [bsv_size]; omega) hm (by rw [bsv_size]; exact Nat.le_refl 1) ?_).mono ?_
  · have h1 := Lib.countB_le (bsv [9]) (by rw [bsv_size]; exact Nat.le_refl 1) _ (bsv l) (Nat.le_refl _)
    rw [bsv_size] at h1 ⊢
    have h2 : (bsv [32]).size = 1 := bsv_size _
    rw [h2]
    omega
  · rintro e w' ⟨rfl, hb⟩
    refine ⟨?_, hb⟩
    rw [bsv_data, bsv_data, bsv_data, rep_t2b]
theorem w_trans {a b c : World} (h : Below a.heap.size a b) (k : Below b.heap.size b c) : Below a.heap.size a c := h.trans (k.mono h.size)
theorem LnS.own {w : World} {B : Nat} {v : Value} {ws : List (List UInt8)} (h : w.ownsRow B 9 1 v ws.length (ws.map fun x => Value.string (bsv x))) (hne : ws ≠ []) : LnS w v ws := by
  rcases h.2 with ⟨_, h0⟩ | ⟨g, cap, cur, e, hb, hc, hn, hm, hsz, htk⟩
  · exact absurd (List.eq_nil_of_length_eq_zero h0) hne
  · refine ⟨g, cap, cur, (0, 0), e, hc, ⟨rfl, hn, fun _ => ⟨g, 0, rfl, (Array.getElem?_eq_some_iff.1 hc).1, fun i hi j hj => ?_⟩⟩, by unfold maxLen at hm; omega⟩
    obtain rfl : j = 0 := by omega
    have e1 : 0 + (i * 1 + 0) = i := by omega
    rw [e1, cell_of_row _ _ _ _ _ _ hc, ← Array.getElem?_toList]
    have h2 : (cur.toList.take (ws.length * 1))[i]? = some (Value.string (bsv (ws[i]))) := by rw [htk, List.getElem?_map, List.getElem?_eq_getElem hi]; rfl
    rw [List.getElem?_take, if_pos (by omega)] at h2
    rw [h2]
    simp [wf, List.getElem?_eq_getElem hi]
theorem own_sl {w : World} {B e s n : Nat} {v : Value} {xs : List Value} (h : w.ownsRow B e s v n xs) : ∃ A c, v = .slice A n c := by
  rcases h.2 with ⟨e, h0⟩ | ⟨g, cap, cur, e, _⟩
  · exact ⟨none, 0, by rw [e, h0]⟩
  · exact ⟨_, cap, e⟩
def RetDL (Ls : List (List (List UInt8))) (w : World) (e : Ending) (w' : World) : Prop := ∃ v, e = .returned (.tuple #[v, I Ls.length]) ∧ LnSR w' w.heap.size v Ls ∧ Below w.heap.size w w'
theorem one_S (x : ByteArray) : ∀ u ∈ [Value.string x], u.oneCell' = true := by
  intro u hu
  rw [List.mem_singleton.1 hu]
  rfl
set_option maxRecDepth 100000 in
set_option maxHeartbeats 8000000 in
theorem DeskLines_any (l : List UInt8) (w : World) (hl : l.length ≤ 1048576) (hL : LD w) :
    Calls Tryz.prog 13 #[.string (bsv l)] w (RetDL (dln l) w) := by
  have HS := Lib.hid (dsplit_any l 10 w (by omega) hL)
  have HLD := Lib.hid hL
  have hPL := spl_length 10 l
  have hPM : ∀ x ∈ spl 10 l, x.length ≤ l.length := fun x hx => spl_mem hx
  obtain ⟨P, hP⟩ : ∃ P, spl 10 l = P := ⟨_, rfl⟩
  have HDL : Hid (dln l = dlnK P P.length) := by show _ = _; unfold dln dlnK; rw [hP, List.take_length]
  rw [hP] at HS hPL hPM
  have hN : P.length ≤ 1048577 := by rw [hPL]; have := List.count_le_length (a := (10 : UInt8)) (l := l); omega
  have HPM : Hid (∀ x ∈ P, x.length ≤ 1048576) := fun x hx => Nat.le_trans (hPM x hx) hl
  obtain ⟨N, hNe⟩ : ∃ N, P.length = N := ⟨_, rfl⟩
  rw [hNe] at HS HDL hN
  have HN := Lib.hid hNe
  obtain ⟨i0, hi, hz0, hz1, hz2⟩ := info_parts strs_info
  have HI := Lib.hid hi
  have HZ0 := Lib.hid hz0
  have HZ1 := Lib.hid hz1
  have HZ2 := Lib.hid hz2
  obtain ⟨j0, hj, hy0, hy1, hy2⟩ := info_parts str_info
  have HJ := Lib.hid hj
  have HY0 := Lib.hid hy0
  have HY1 := Lib.hid hy1
  have HY2 := Lib.hid hy2
  clear hP hPL hPM hL hl hNe hi hz0 hz1 hz2 hj hy0 hy1 hy2
  go_enter Tryz.func13, Tryz.ntmps13
  go_wp2_with fail
  refine HS.out.mono ?_
  rintro e w1 ⟨rfl, hT1, hb1⟩
  have HT1 := Lib.hid hT1
  have HB1 := Lib.hid hb1
  have HLD1 := Lib.hid (HLD.out.next hb1)
  clear hT1 hb1
  go_wp2
  go_loopw [4, 13] (fun sv iv wr => ∃ k : Nat, k ≤ N ∧ iv = .int .i64 k ∧ Hid (LnSR wr w1.heap.size sv (dlnK P k)) ∧ Hid (Below w1.heap.size w1 wr)) (fun _ iv _ => N - (intOf iv).toNat)
  case atStart =>
    refine ⟨0, Nat.zero_le _, rfl, ?_, Below.refl _ _⟩
    show LnSR _ _ _ _
    exact ⟨[], rfl, World.ownsRow_nil _ _ _ _, fun i hi => by cases hi⟩
  case round =>
    obtain ⟨k, hk, rfl, HR, HB⟩ := hrel
    obtain ⟨wo, rfl⟩ : ∃ x, x = wr := ⟨wr, rfl⟩
    obtain ⟨vA, vc, hsv, -⟩ := HR.out.is_
    obtain ⟨vn, hvn⟩ : ∃ n, (dlnK P k).length = n := ⟨_, rfl⟩
    have hvk : vn ≤ k := by rw [← hvn]; exact dlnK_len P k
    rw [hvn] at hsv
    subst hsv
    have HVN := Lib.hid hvn
    clear hvn
    by_cases hkn : k < N
    · have hkl : k < P.length := by rw [HN.out]; exact hkn
      have htr : TBk wo w.heap.size P := HT1.out.below HB.out HT1.out.lt
      have hck := htr.cell k
      rw [List.getElem?_eq_getElem hkl, Option.map_some] at hck
      have hxl := HPM.out _ (List.getElem_mem hkl)
      obtain ⟨x, hx⟩ : ∃ x, P[k] = x := ⟨_, rfl⟩
      have hsome := fun (ws : List (List UInt8)) (h : wds (x.takeWhile (· != 59)) = ws) (hne : ws ≠ []) => dlnK_some hkl (ws := ws) (by rw [hx]; exact h) hne
      have hnone := fun (h : wds (x.takeWhile (· != 59)) = []) => dlnK_none hkl (by rw [hx]; exact h)
      rw [hx] at hck hxl
      have HSO := Lib.hid hsome
      have HNO := Lib.hid hnone
      have HC := Lib.hid (first_any x wo (by omega) (HLD1.out.next HB.out))
      have htw := tw_len x
      obtain ⟨y, hy⟩ : ∃ y, x.takeWhile (· != 59) = y := ⟨_, rfl⟩
      rw [hy] at HC HSO HNO htw
      clear htr hx hsome hnone hy
      go_wp2_with fail
      refine HC.out.mono ?_
      rintro e w2 ⟨n2, c2, rfl, hc2, hb2⟩
      have HBO2 := Lib.hid hb2
      have HB2 := Lib.hid (HB.out.trans (hb2.mono HB.out.size))
      have HLD2 := Lib.hid (HLD1.out.next HB2.out)
      have hn2 : 0 < n2 + 1 := by omega
      clear hb2
      go_wp2_with fail
      refine (repl_any y w2 (by omega) HLD2.out).mono ?_
      rintro e w3 ⟨rfl, hb3⟩
      have HBO3 := Lib.hid (w_trans HBO2.out hb3)
      have HB3 := Lib.hid (HB2.out.trans (hb3.mono HB2.out.size))
      have HLD3 := Lib.hid (HLD1.out.next HB3.out)
      clear hb3
      have hzl : (y.map t2b).length = y.length := List.length_map _
      have hwy : wds y = wdK (spl 32 (y.map t2b)) (spl 32 (y.map t2b)).length := by unfold wdK; rw [List.take_length, wds_spl]
      obtain ⟨z, hz⟩ : ∃ z, y.map t2b = z := ⟨_, rfl⟩
      rw [hz] at hzl hwy ⊢
      have hQL := spl_length 32 z
      have hQc := List.count_le_length (a := (32 : UInt8)) (l := z)
      have HS2 := Lib.hid (dsplit_any z 32 w3 (by omega) HLD3.out)
      obtain ⟨Q, hQ⟩ : ∃ Q, spl 32 z = Q := ⟨_, rfl⟩
      rw [hQ] at HS2 hwy hQL
      obtain ⟨M, hM⟩ : ∃ M, Q.length = M := ⟨_, rfl⟩
      rw [hM] at HS2 hwy hQL
      have hMb : M ≤ 1048577 := by omega
      have HM := Lib.hid hM
      have HWY := Lib.hid hwy
      clear hz hQ hM hwy hQL hQc hzl
      go_wp2_with fail
      refine HS2.out.mono ?_
      rintro e w4 ⟨rfl, hT4, hb4⟩
      have HBO4 := Lib.hid (w_trans HBO3.out hb4)
      have HB4 := Lib.hid (HB3.out.trans (hb4.mono HB3.out.size))
      have HT4 := Lib.hid hT4
      have HR4 := Lib.hid (HR.out.below HBO4.out)
      clear hT4 hb4
      go_wp2
      go_loopw [7, 25] (fun wv iv wr => ∃ q : Nat, q ≤ M ∧ iv = .int .i64 q ∧ Hid (wr.ownsRow w4.heap.size 9 1 wv (wdK Q q).length ((wdK Q q).map fun x => Value.string (bsv x))) ∧ Hid (Below w4.heap.size w4 wr)) (fun _ iv _ => M - (intOf iv).toNat)
      case atStart => exact ⟨0, Nat.zero_le _, rfl, World.ownsRow_nil _ _ _ _, Below.refl _ _⟩
      case round =>
        obtain ⟨q, hq, rfl, HO, HBQ⟩ := hrel
        by_cases hqm : q < M
        · have hql : q < Q.length := by rw [HM.out]; exact hqm
          have htq : TBk wr w3.heap.size Q := HT4.out.below HBQ.out HT4.out.lt
          have hcq := htq.cell q
          rw [List.getElem?_eq_getElem hql, Option.map_some] at hcq
          obtain ⟨u, hu⟩ : ∃ u, Q[q] = u := ⟨_, rfl⟩
          rw [hu] at hcq
          have hsz := HBQ.out.size
          obtain ⟨X, hX⟩ : ∃ X, wdK Q q = X := ⟨_, rfl⟩
          have hXl : X.length ≤ q := by rw [← hX]; exact wdK_len Q q
          by_cases hu0 : u = []
          · have hue : u.isEmpty = true := by rw [hu0]; rfl
            have HE : Hid (wdK Q (q + 1) = X) := by show _ = _; rw [← hX]; exact wdK_none hql (by rw [hu, hu0])
            rw [hX] at HO
            clear htq hu hu0 hX
            go_wp2
            go_roundw
            case rel => exact ⟨q + 1, by omega, by go_num, by rw [HE.out]; exact HO, HBQ.out⟩
            case measure => simp [intOf]; omega
          · have hue : u.isEmpty = false := by cases u with | nil => exact absurd rfl hu0 | cons a t => rfl
            have HE : Hid (wdK Q (q + 1) = X ++ [u]) := by show _ = _; rw [← hX]; exact wdK_some hql hu hu0
            rw [hX] at HO
            clear htq hu hu0 hX
            go_wp2_with (first
              | (at_builtin
                 refine wpList_append_own_at _ rfl (.tmp 31) (.tmp 33) 30 rfl w4.heap.size 9 j0 _ 1 16 Tryz.underlying30 HJ.out HY0.out HY1.out HY2.out rfl (by omega) _ X.length (X.map fun x => Value.string (bsv x)) rfl (own_below HO.out ((Below.refl _ _).alloc (Nat.le_refl _) _)) ⟨wr.heap.size, 0, none⟩ 1 1 [.string (bsv u)] rfl rfl (cell_one_new _ _ _) (one_S _) (by unfold maxLen; omega) (by omega) (by simp; omega) ?_
                 intro v5 w5 hown5 hgrow5 _ hat5)
              | fail)
            go_roundw
            case rel =>
              refine ⟨q + 1, by omega, by go_num, ?_, ?_⟩
              · show World.ownsRow _ _ _ _ _ _ _
                rw [HE.out, List.length_append, List.length_singleton, List.map_append]
                exact hown5
              · exact Below.grown (HBQ.out.alloc hsz _) hgrow5 (by simp; omega) (own_ge1 HO.out)
            case measure => simp [intOf]; omega
        · obtain rfl : q = M := by omega
          rw [← HWY.out] at HO
          obtain ⟨ws, hws⟩ : ∃ ws, wds y = ws := ⟨_, rfl⟩
          have HWS := Lib.hid hws
          rw [hws] at HO
          obtain ⟨m, hm⟩ : ∃ m, ws.length = m := ⟨_, rfl⟩
          have HMM := Lib.hid hm
          have HRQ := Lib.hid (HR4.out.below HBQ.out)
          have HBB := Lib.hid (HB4.out.trans (HBQ.out.mono HB4.out.size))
          clear hws
          rw [hm] at HO
          obtain ⟨A7, c7, rfl⟩ := own_sl HO.out
          by_cases h0 : m = 0
          · subst h0
            have hnil : ws = [] := List.eq_nil_of_length_eq_zero hm
            have HE : Hid (dlnK P (k + 1) = dlnK P k) := Lib.hid (HNO.out (by rw [HWS.out, hnil]))
            clear hm hnil
            go_wp2
            go_roundw
            case rel => exact ⟨k + 1, by omega, by go_num, by show LnSR _ _ _ _; rw [HE.out]; exact HRQ.out, HBB.out⟩
            case measure => simp [intOf]; omega
          · have h0i : decide (0 < m) = true := by simp; omega
            have h0p : 0 < m := by omega
            have hwne : ws ≠ [] := by intro e; rw [e] at hm; simp at hm; omega
            have HE : Hid (dlnK P (k + 1) = dlnK P k ++ [ws]) := Lib.hid (HSO.out ws HWS.out hwne)
            have HLN := Lib.hid (LnS.own (by rw [hm]; exact HO.out) hwne)
            obtain ⟨vals, hv1, hv2, hv3⟩ := HRQ.out
            have HV1 := Lib.hid hv1
            have HV3 := Lib.hid hv3
            have HVO := Lib.hid hv2
            rw [HVN.out] at hv2
            have HV2 := Lib.hid hv2
            clear hv1 hv2 hv3 h0 hm hwne
            go_wp2_with (first
              | (at_builtin
                 refine wpList_append_own_at _ rfl (.tmp 39) (.tmp 41) 24 rfl w1.heap.size 30 i0 _ 1 24 Tryz.underlying24 HI.out HZ0.out HZ1.out HZ2.out rfl (by omega) _ vn vals rfl (own_below HV2.out ((Below.refl _ _).alloc (Nat.le_refl _) _)) ⟨wr.heap.size, 0, none⟩ 1 1 [.slice A7 m c7] rfl rfl (slice_one wr _ m c7 _) (fun u hu => by rw [List.mem_singleton.mp hu]; rfl) (by unfold maxLen; omega) (by omega) (by rw [World.size_alloc]; have := HBB.out.size; omega) ?_
                 intro v4 w9 hown4 hgrow4 _ hat4)
              | fail)
            go_roundw
            case rel =>
              refine ⟨k + 1, by omega, by go_num, ?_, ?_⟩
              · show LnSR _ _ _ _
                rw [HE.out]
                exact LnSR.more HV1.out HVO.out HV3.out ((Below.refl _ _).alloc (Nat.le_refl _) _) (HLN.out.below ((Below.refl _ _).alloc (Nat.le_refl _) _)) hgrow4 (by rw [HVN.out]; exact hown4)
              · exact Below.grown (HBB.out.alloc HBB.out.size _) hgrow4 (by rw [World.size_alloc]; have := HBB.out.size; omega) (own_ge1 HV2.out)
            case measure => simp [intOf]; omega
    · obtain rfl : N = k := by omega
      have HR2 := HR.out
      rw [← HDL.out] at HR2 HVN
      have HRR := Lib.hid HR2
      clear HR2
      go_wp2
      go_ret2
      exact ⟨.slice vA vn vc, by rw [HVN.out]; rfl, HRR.out.weaken HB1.out.size, HB1.out.trans (HB.out.mono HB1.out.size)⟩
end Go.Proofs.YtpnjnedfcdppaaaGreatDoor
