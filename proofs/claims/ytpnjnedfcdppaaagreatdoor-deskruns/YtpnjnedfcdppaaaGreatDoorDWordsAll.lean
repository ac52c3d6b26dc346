/-
  Joined texts: YtpnjnedfcdppaaaGreatDoorDRef, YtpnjnedfcdppaaaGreatDoorDNl, YtpnjnedfcdppaaaGreatDoorDCountL, YtpnjnedfcdppaaaGreatDoorDFrontL, YtpnjnedfcdppaaaGreatDoorDZipP, YtpnjnedfcdppaaaGreatDoorDZipQ, YtpnjnedfcdppaaaGreatDoorDDig, YtpnjnedfcdppaaaGreatDoorDWords.
-/
import Derived.Test.YtpnjnedfcdppaaaGreatDoorDRefPAll
import Derived.Test.YtpnjnedfcdppaaaGreatDoorDLivesAll
import Derived.Maps.AppendAt
/-
  hedgref.DeskLines.
-/
namespace Go.Proofs.YtpnjnedfcdppaaaGreatDoor
open Go.RowKit

/-- a line's words, in a block of texts -/
def LnS (w : World) (v : Value) (ws : List (List UInt8)) : Prop :=
  ∃ g c cs fz, v = .slice (some ⟨g, 0, none⟩) ws.length c ∧ w.heap[g]? = some (.cells cs 9 fz) ∧ WS w (some ⟨g, 0, none⟩) ws.length c ws ∧ c ≤ 9223372036854775807
theorem LnS.keep {w w' : World} {v : Value} {ws : List (List UInt8)} (h : LnS w v ws) (hs : w.heap.size ≤ w'.heap.size) (hk : ∀ (k : Nat) (cs : Array Value) (fz : Nat × Nat), w.heap[k]? = some (.cells cs 9 fz) → w'.heap[k]? = w.heap[k]?) : LnS w' v ws := by
  obtain ⟨g, c, cs, fz, e, hc, hw, hb⟩ := h
  have hg := hk g cs fz hc
  refine ⟨g, c, cs, fz, e, hg.trans hc, ⟨hw.len, hw.rd.1, fun hn => ?_⟩, hb⟩
  obtain ⟨b, off, e1, hlt, hcl⟩ := hw.rd.2 hn
  cases e1
  exact ⟨g, 0, rfl, by omega, fun i hi j hj => (World.cell?_of_block (a := ⟨g, 0 + (i * 1 + j), none⟩) hg).trans (hcl i hi j hj)⟩
theorem LnS.below {w w' : World} {v : Value} {ws : List (List UInt8)} (h : LnS w v ws) (hb : Below w.heap.size w w') : LnS w' v ws :=
  h.keep hb.size fun k cs fz hc => hb.block k (Array.getElem?_eq_some_iff.1 hc).1
/-- a row of lines of the call's own -/
def LnSR (w : World) (base : Nat) (v : Value) (Ls : List (List (List UInt8))) : Prop :=
  ∃ vals : List Value, vals.length = Ls.length ∧ w.ownsRow base 30 1 v Ls.length vals ∧ ∀ i (hi : i < Ls.length), ∃ u, vals[i]? = some u ∧ LnS w u Ls[i]
theorem LnSR.below {w w' : World} {base : Nat} {v : Value} {Ls : List (List (List UInt8))} (h : LnSR w base v Ls) (hb : Below w.heap.size w w') : LnSR w' base v Ls := by
  obtain ⟨vals, h1, h2, h3⟩ := h
  exact ⟨vals, h1, own_below h2 hb, fun i hi => let ⟨u, a, b⟩ := h3 i hi; ⟨u, a, b.below hb⟩⟩
theorem LnSR.is_ {w : World} {base : Nat} {v : Value} {Ls : List (List (List UInt8))} (h : LnSR w base v Ls) : ∃ A c, v = .slice A Ls.length c ∧ (∀ i (hi : i < Ls.length), ∃ b off u, A = some ⟨b, off, none⟩ ∧ b < w.heap.size ∧ base ≤ b ∧ w.cell? ⟨b, off + i, none⟩ = some u ∧ LnS w u Ls[i]) := by
  obtain ⟨vals, h1, h2, h3⟩ := h
  rcases h2.2 with ⟨e, h0⟩ | ⟨g, cap, cur, e, hb, hc, hn, hm, hsz, htk⟩
  · exact ⟨none, 0, by rw [e, h0], fun i hi => by omega⟩
  · refine ⟨_, cap, e, fun i hi => ?_⟩
    obtain ⟨u, hu, hl⟩ := h3 i hi
    refine ⟨g, 0, u, rfl, (Array.getElem?_eq_some_iff.1 hc).1, hb, ?_, hl⟩
    rw [Nat.zero_add, cell_of_row _ _ _ _ _ _ hc, ← Array.getElem?_toList]
    rw [← htk, List.getElem?_take, if_pos (by omega)] at hu
    exact hu
theorem LnSR.weaken {w : World} {base base' : Nat} {v : Value} {Ls : List (List (List UInt8))} (h : LnSR w base v Ls) (hb : base' ≤ base) : LnSR w base' v Ls := by
  obtain ⟨vals, h1, h2, h3⟩ := h
  refine ⟨vals, h1, ⟨h2.1, ?_⟩, h3⟩
  rcases h2.2 with h0 | ⟨g, cap, cur, e, hg, hr⟩
  · exact .inl h0
  · exact .inr ⟨g, cap, cur, e, Nat.le_trans hb hg, hr⟩
/-- one line more -/
theorem LnSR.more {w w' X : World} {base : Nat} {v v' u : Value} {Ls : List (List (List UInt8))} {ws : List (List UInt8)} {vals : List Value} (h1 : vals.length = Ls.length) (h2 : w.ownsRow base 30 1 v Ls.length vals) (h3 : ∀ i (hi : i < Ls.length), ∃ u, vals[i]? = some u ∧ LnS w u Ls[i])
    (hX : Below w.heap.size w X) (hu : LnS X u ws) (hg : X.grownBy w' v.ownBlock) (hown : w'.ownsRow base 30 1 v' (Ls.length + 1) (vals ++ [u])) : LnSR w' base v' (Ls ++ [ws]) := by
  have hk : ∀ (k : Nat) (cs : Array Value) (fz : Nat × Nat), X.heap[k]? = some (.cells cs 9 fz) → w'.heap[k]? = X.heap[k]? := fun k cs fz hc => by
    refine hg.block k (Array.getElem?_eq_some_iff.1 hc).1 fun e => ?_
    obtain ⟨cs', fz', hc'⟩ := own_row h2 k e.symm
    rw [hX.block k (Array.getElem?_eq_some_iff.1 hc').1, hc'] at hc
    cases hc
  refine ⟨vals ++ [u], by simp [h1], by rw [List.length_append]; exact hown, fun i hi => ?_⟩
  rw [List.length_append, List.length_singleton] at hi
  rcases Nat.lt_or_ge i Ls.length with hlt | hge
  · obtain ⟨u', a, b⟩ := h3 i hlt
    refine ⟨u', by rw [List.getElem?_append_left (by omega)]; exact a, ?_⟩
    rw [List.getElem_append_left hlt]
    exact (b.below hX).keep hg.size hk
  · obtain rfl : i = Ls.length := by omega
    refine ⟨u, by rw [List.getElem?_append_right (by omega), h1, Nat.sub_self]; rfl, ?_⟩
    rw [List.getElem_append_right (Nat.le_refl _)]
    simp only [Nat.sub_self, List.getElem_cons_zero]
    exact hu.keep hg.size hk
/-- words so far -/
def wdK (P : List (List UInt8)) (k : Nat) : List (List UInt8) := (P.take k).filter (fun x => !x.isEmpty)
theorem wdK_some {P : List (List UInt8)} {k : Nat} (hk : k < P.length) {x : List UInt8} (h : P[k] = x) (hne : x ≠ []) : wdK P (k + 1) = wdK P k ++ [x] := by
  unfold wdK
  rw [List.take_succ_eq_append_getElem hk, List.filter_append, h]
  cases x with
  | nil => exact absurd rfl hne
  | cons a t => rfl
theorem wdK_none {P : List (List UInt8)} {k : Nat} (hk : k < P.length) (h : P[k] = []) : wdK P (k + 1) = wdK P k := by
  unfold wdK
  rw [List.take_succ_eq_append_getElem hk, List.filter_append, h]
  simp
theorem wdK_len (P : List (List UInt8)) (k : Nat) : (wdK P k).length ≤ k := by
  unfold wdK
  refine Nat.le_trans (List.length_filter_le _ _) ?_
  rw [List.length_take]
  omega
theorem first_any (l : List UInt8) (w : World) (hl : l.length ≤ 4000000000) (hL : LD w) :
    Calls Tryz.prog 51 #[.string (bsv l), .string (bsv [59]), .int .i64 2] w fun e w' => ∃ n c, e = .returned (.slice (some ⟨w.heap.size, 0, none⟩) (n + 1) c) ∧ w'.cell? ⟨w.heap.size, 0, none⟩ = some (.string (bsv (l.takeWhile (· != 59)))) ∧ Below w.heap.size w w' := by
  obtain ⟨m, hm⟩ := hL.ml
  refine (Tryz.strings_SplitN (bsv l) (bsv [59]) 2 m w (by rw [bsv_size]; omega) hm (by rw [bsv_size]; exact Nat.le_refl 1) (by omega) (by omega)).mono ?_
  rintro e w' ⟨rfl, rfl⟩
  obtain ⟨y, r, hy, hd⟩ := splitB_first (bsv [59]) 59 (by simp) (bsv l)
  rw [hy]
  refine ⟨r.length, _, rfl, ?_, (Below.refl _ _).alloc (Nat.le_refl _) _⟩
  have hc := heap_alloc_new w (.cells (Lib.cellsOf (y :: r) (min 2 ((bsv l).size + 1))) 9)
  rw [cell_of_row _ _ _ _ _ _ hc]
  have hd2 : y = bsv (l.takeWhile (· != 59)) := by
    rw [← bsv_of y, hd, bsv_data]
  rw [hd2]
  simp [Lib.cellsOf]
theorem repl_any (l : List UInt8) (w : World) (hl : l.length ≤ 4000000000) (hL : LD w) :
    Calls Tryz.prog 50 #[.string (bsv l), .string (bsv [9]), .string (bsv [32])] w fun e w' => e = .returned (.string (bsv (l.map t2b))) ∧ Below w.heap.size w w' := by
  obtain ⟨m, hm⟩ := hL.ml
  refine (Tryz.strings_ReplaceAll (bsv l) (bsv [9]) (bsv [32]) m w (by rw [bsv_size]; omega) hm (by rw [bsv_size]; exact Nat.le_refl 1) ?_).mono ?_
  · have h1 := Lib.countB_le (bsv [9]) (by rw [bsv_size]; exact Nat.le_refl 1) _ (bsv l) (Nat.le_refl _)
    rw [bsv_size] at h1 ⊢
    have h2 : (bsv [32]).size = 1 := bsv_size _
    rw [h2]
    omega
  · rintro e w' ⟨rfl, hb⟩
    refine ⟨?_, hb⟩
    rw [bsv_data, bsv_data, bsv_data, rep_t2b]
theorem w_trans {a b c : World} (h : Below a.heap.size a b) (k : Below b.heap.size b c) : Below a.heap.size a c := h.trans (k.mono h.size)
theorem LnS.own {w : World} {B : Nat} {v : Value} {ws : List (List UInt8)} (h : w.ownsRow B 9 1 v ws.length (ws.map fun x => Value.string (bsv x))) (hne : ws ≠ []) : LnS w v ws := by
  rcases h.2 with ⟨_, h0⟩ | ⟨g, cap, cur, e, hb, hc, hn, hm, hsz, htk⟩
  · exact absurd (List.eq_nil_of_length_eq_zero h0) hne
  · refine ⟨g, cap, cur, (0, 0), e, hc, ⟨rfl, hn, fun _ => ⟨g, 0, rfl, (Array.getElem?_eq_some_iff.1 hc).1, fun i hi j hj => ?_⟩⟩, by unfold maxLen at hm; omega⟩
    obtain rfl : j = 0 := by omega
    have e1 : 0 + (i * 1 + 0) = i := by omega
    rw [e1, cell_of_row _ _ _ _ _ _ hc, ← Array.getElem?_toList]
    have h2 : (cur.toList.take (ws.length * 1))[i]? = some (Value.string (bsv (ws[i]))) := by rw [htk, List.getElem?_map, List.getElem?_eq_getElem hi]; rfl
    rw [List.getElem?_take, if_pos (by omega)] at h2
    rw [h2]
    simp [wf, List.getElem?_eq_getElem hi]
theorem own_sl {w : World} {B e s n : Nat} {v : Value} {xs : List Value} (h : w.ownsRow B e s v n xs) : ∃ A c, v = .slice A n c := by
  rcases h.2 with ⟨e, h0⟩ | ⟨g, cap, cur, e, _⟩
  · exact ⟨none, 0, by rw [e, h0]⟩
  · exact ⟨_, cap, e⟩
def RetDL (Ls : List (List (List UInt8))) (w : World) (e : Ending) (w' : World) : Prop := ∃ v, e = .returned (.tuple #[v, I Ls.length]) ∧ LnSR w' w.heap.size v Ls ∧ Below w.heap.size w w'
theorem one_S (x : ByteArray) : ∀ u ∈ [Value.string x], u.oneCell' = true := by
  intro u hu
  rw [List.mem_singleton.1 hu]
  rfl
set_option maxRecDepth 100000 in
set_option maxHeartbeats 8000000 in
theorem DeskLines_any (l : List UInt8) (w : World) (hl : l.length ≤ 1048576) (hL : LD w) :
    Calls Tryz.prog 13 #[.string (bsv l)] w (RetDL (dln l) w) := by
  have HS := Lib.hid (dsplit_any l 10 w (by omega) hL)
  have HLD := Lib.hid hL
  have hPL := spl_length 10 l
  have hPM : ∀ x ∈ spl 10 l, x.length ≤ l.length := fun x hx => spl_mem hx
  obtain ⟨P, hP⟩ : ∃ P, spl 10 l = P := ⟨_, rfl⟩
  have HDL : Hid (dln l = dlnK P P.length) := by show _ = _; unfold dln dlnK; rw [hP, List.take_length]
  rw [hP] at HS hPL hPM
  have hN : P.length ≤ 1048577 := by rw [hPL]; have := List.count_le_length (a := (10 : UInt8)) (l := l); omega
  have HPM : Hid (∀ x ∈ P, x.length ≤ 1048576) := fun x hx => Nat.le_trans (hPM x hx) hl
  obtain ⟨N, hNe⟩ : ∃ N, P.length = N := ⟨_, rfl⟩
  rw [hNe] at HS HDL hN
  have HN := Lib.hid hNe
  obtain ⟨i0, hi, hz0, hz1, hz2⟩ := info_parts strs_info
  have HI := Lib.hid hi
  have HZ0 := Lib.hid hz0
  have HZ1 := Lib.hid hz1
  have HZ2 := Lib.hid hz2
  obtain ⟨j0, hj, hy0, hy1, hy2⟩ := info_parts str_info
  have HJ := Lib.hid hj
  have HY0 := Lib.hid hy0
  have HY1 := Lib.hid hy1
  have HY2 := Lib.hid hy2
  clear hP hPL hPM hL hl hNe hi hz0 hz1 hz2 hj hy0 hy1 hy2
  go_enter Tryz.func13, Tryz.ntmps13
  go_wp2_with fail
  refine HS.out.mono ?_
  rintro e w1 ⟨rfl, hT1, hb1⟩
  have HT1 := Lib.hid hT1
  have HB1 := Lib.hid hb1
  have HLD1 := Lib.hid (HLD.out.next hb1)
  clear hT1 hb1
  go_wp2
  go_loopw [4, 13] (fun sv iv wr => ∃ k : Nat, k ≤ N ∧ iv = .int .i64 k ∧ Hid (LnSR wr w1.heap.size sv (dlnK P k)) ∧ Hid (Below w1.heap.size w1 wr)) (fun _ iv _ => N - (intOf iv).toNat)
  case atStart =>
    refine ⟨0, Nat.zero_le _, rfl, ?_, Below.refl _ _⟩
    show LnSR _ _ _ _
    exact ⟨[], rfl, World.ownsRow_nil _ _ _ _, fun i hi => by cases hi⟩
  case round =>
    obtain ⟨k, hk, rfl, HR, HB⟩ := hrel
    obtain ⟨wo, rfl⟩ : ∃ x, x = wr := ⟨wr, rfl⟩
    obtain ⟨vA, vc, hsv, -⟩ := HR.out.is_
    obtain ⟨vn, hvn⟩ : ∃ n, (dlnK P k).length = n := ⟨_, rfl⟩
    have hvk : vn ≤ k := by rw [← hvn]; exact dlnK_len P k
    rw [hvn] at hsv
    subst hsv
    have HVN := Lib.hid hvn
    clear hvn
    by_cases hkn : k < N
    · have hkl : k < P.length := by rw [HN.out]; exact hkn
      have htr : TBk wo w.heap.size P := HT1.out.below HB.out HT1.out.lt
      have hck := htr.cell k
      rw [List.getElem?_eq_getElem hkl, Option.map_some] at hck
      have hxl := HPM.out _ (List.getElem_mem hkl)
      obtain ⟨x, hx⟩ : ∃ x, P[k] = x := ⟨_, rfl⟩
      have hsome := fun (ws : List (List UInt8)) (h : wds (x.takeWhile (· != 59)) = ws) (hne : ws ≠ []) => dlnK_some hkl (ws := ws) (by rw [hx]; exact h) hne
      have hnone := fun (h : wds (x.takeWhile (· != 59)) = []) => dlnK_none hkl (by rw [hx]; exact h)
      rw [hx] at hck hxl
      have HSO := Lib.hid hsome
      have HNO := Lib.hid hnone
      have HC := Lib.hid (first_any x wo (by omega) (HLD1.out.next HB.out))
      have htw := tw_len x
      obtain ⟨y, hy⟩ : ∃ y, x.takeWhile (· != 59) = y := ⟨_, rfl⟩
      rw [hy] at HC HSO HNO htw
      clear htr hx hsome hnone hy
      go_wp2_with fail
      refine HC.out.mono ?_
      rintro e w2 ⟨n2, c2, rfl, hc2, hb2⟩
      have HBO2 := Lib.hid hb2
      have HB2 := Lib.hid (HB.out.trans (hb2.mono HB.out.size))
      have HLD2 := Lib.hid (HLD1.out.next HB2.out)
      have hn2 : 0 < n2 + 1 := by omega
      clear hb2
      go_wp2_with fail
      refine (repl_any y w2 (by omega) HLD2.out).mono ?_
      rintro e w3 ⟨rfl, hb3⟩
      have HBO3 := Lib.hid (w_trans HBO2.out hb3)
      have HB3 := Lib.hid (HB2.out.trans (hb3.mono HB2.out.size))
      have HLD3 := Lib.hid (HLD1.out.next HB3.out)
      clear hb3
      have hzl : (y.map t2b).length = y.length := List.length_map _
      have hwy : wds y = wdK (spl 32 (y.map t2b)) (spl 32 (y.map t2b)).length := by unfold wdK; rw [List.take_length, wds_spl]
      obtain ⟨z, hz⟩ : ∃ z, y.map t2b = z := ⟨_, rfl⟩
      rw [hz] at hzl hwy ⊢
      have hQL := spl_length 32 z
      have hQc := List.count_le_length (a := (32 : UInt8)) (l := z)
      have HS2 := Lib.hid (dsplit_any z 32 w3 (by omega) HLD3.out)
      obtain ⟨Q, hQ⟩ : ∃ Q, spl 32 z = Q := ⟨_, rfl⟩
      rw [hQ] at HS2 hwy hQL
      obtain ⟨M, hM⟩ : ∃ M, Q.length = M := ⟨_, rfl⟩
      rw [hM] at HS2 hwy hQL
      have hMb : M ≤ 1048577 := by omega
      have HM := Lib.hid hM
      have HWY := Lib.hid hwy
      clear hz hQ hM hwy hQL hQc hzl
      go_wp2_with fail
      refine HS2.out.mono ?_
      rintro e w4 ⟨rfl, hT4, hb4⟩
      have HBO4 := Lib.hid (w_trans HBO3.out hb4)
      have HB4 := Lib.hid (HB3.out.trans (hb4.mono HB3.out.size))
      have HT4 := Lib.hid hT4
      have HR4 := Lib.hid (HR.out.below HBO4.out)
      clear hT4 hb4
      go_wp2
      go_loopw [7, 25] (fun wv iv wr => ∃ q : Nat, q ≤ M ∧ iv = .int .i64 q ∧ Hid (wr.ownsRow w4.heap.size 9 1 wv (wdK Q q).length ((wdK Q q).map fun x => Value.string (bsv x))) ∧ Hid (Below w4.heap.size w4 wr)) (fun _ iv _ => M - (intOf iv).toNat)
      case atStart => exact ⟨0, Nat.zero_le _, rfl, World.ownsRow_nil _ _ _ _, Below.refl _ _⟩
      case round =>
        obtain ⟨q, hq, rfl, HO, HBQ⟩ := hrel
        by_cases hqm : q < M
        · have hql : q < Q.length := by rw [HM.out]; exact hqm
          have htq : TBk wr w3.heap.size Q := HT4.out.below HBQ.out HT4.out.lt
          have hcq := htq.cell q
          rw [List.getElem?_eq_getElem hql, Option.map_some] at hcq
          obtain ⟨u, hu⟩ : ∃ u, Q[q] = u := ⟨_, rfl⟩
          rw [hu] at hcq
          have hsz := HBQ.out.size
          obtain ⟨X, hX⟩ : ∃ X, wdK Q q = X := ⟨_, rfl⟩
          have hXl : X.length ≤ q := by rw [← hX]; exact wdK_len Q q
          by_cases hu0 : u = []
          · have hue : u.isEmpty = true := by rw [hu0]; rfl
            have HE : Hid (wdK Q (q + 1) = X) := by show _ = _; rw [← hX]; exact wdK_none hql (by rw [hu, hu0])
            rw [hX] at HO
            clear htq hu hu0 hX
            go_wp2
            go_roundw
            case rel => exact ⟨q + 1, by omega, by go_num, by rw [HE.out]; exact HO, HBQ.out⟩
            case measure => simp [intOf]; omega
          · have hue : u.isEmpty = false := by cases u with | nil => exact absurd rfl hu0 | cons a t => rfl
            have HE : Hid (wdK Q (q + 1) = X ++ [u]) := by show _ = _; rw [← hX]; exact wdK_some hql hu hu0
            rw [hX] at HO
            clear htq hu hu0 hX
            go_wp2_with (first
              | (at_builtin
                 refine wpList_append_own_at _ rfl (.tmp 31) (.tmp 33) 30 rfl w4.heap.size 9 j0 _ 1 16 Tryz.underlying30 HJ.out HY0.out HY1.out HY2.out rfl (by omega) _ X.length (X.map fun x => Value.string (bsv x)) rfl (own_below HO.out ((Below.refl _ _).alloc (Nat.le_refl _) _)) ⟨wr.heap.size, 0, none⟩ 1 1 [.string (bsv u)] rfl rfl (cell_one_new _ _ _) (one_S _) (by unfold maxLen; omega) (by omega) (by simp; omega) ?_
                 intro v5 w5 hown5 hgrow5 _ hat5)
              | fail)
            go_roundw
            case rel =>
              refine ⟨q + 1, by omega, by go_num, ?_, ?_⟩
              · show World.ownsRow _ _ _ _ _ _ _
                rw [HE.out, List.length_append, List.length_singleton, List.map_append]
                exact hown5
              · exact Below.grown (HBQ.out.alloc hsz _) hgrow5 (by simp; omega) (own_ge1 HO.out)
            case measure => simp [intOf]; omega
        · obtain rfl : q = M := by omega
          rw [← HWY.out] at HO
          obtain ⟨ws, hws⟩ : ∃ ws, wds y = ws := ⟨_, rfl⟩
          have HWS := Lib.hid hws
          rw [hws] at HO
          obtain ⟨m, hm⟩ : ∃ m, ws.length = m := ⟨_, rfl⟩
          have HMM := Lib.hid hm
          have HRQ := Lib.hid (HR4.out.below HBQ.out)
          have HBB := Lib.hid (HB4.out.trans (HBQ.out.mono HB4.out.size))
          clear hws
          rw [hm] at HO
          obtain ⟨A7, c7, rfl⟩ := own_sl HO.out
          by_cases h0 : m = 0
          · subst h0
            have hnil : ws = [] := List.eq_nil_of_length_eq_zero hm
            have HE : Hid (dlnK P (k + 1) = dlnK P k) := Lib.hid (HNO.out (by rw [HWS.out, hnil]))
            clear hm hnil
            go_wp2
            go_roundw
            case rel => exact ⟨k + 1, by omega, by go_num, by show LnSR _ _ _ _; rw [HE.out]; exact HRQ.out, HBB.out⟩
            case measure => simp [intOf]; omega
          · have h0i : decide (0 < m) = true := by simp; omega
            have h0p : 0 < m := by omega
            have hwne : ws ≠ [] := by intro e; rw [e] at hm; simp at hm; omega
            have HE : Hid (dlnK P (k + 1) = dlnK P k ++ [ws]) := Lib.hid (HSO.out ws HWS.out hwne)
            have HLN := Lib.hid (LnS.own (by rw [hm]; exact HO.out) hwne)
            obtain ⟨vals, hv1, hv2, hv3⟩ := HRQ.out
            have HV1 := Lib.hid hv1
            have HV3 := Lib.hid hv3
            have HVO := Lib.hid hv2
            rw [HVN.out] at hv2
            have HV2 := Lib.hid hv2
            clear hv1 hv2 hv3 h0 hm hwne
            go_wp2_with (first
              | (at_builtin
                 refine wpList_append_own_at _ rfl (.tmp 39) (.tmp 41) 24 rfl w1.heap.size 30 i0 _ 1 24 Tryz.underlying24 HI.out HZ0.out HZ1.out HZ2.out rfl (by omega) _ vn vals rfl (own_below HV2.out ((Below.refl _ _).alloc (Nat.le_refl _) _)) ⟨wr.heap.size, 0, none⟩ 1 1 [.slice A7 m c7] rfl rfl (slice_one wr _ m c7 _) (fun u hu => by rw [List.mem_singleton.mp hu]; rfl) (by unfold maxLen; omega) (by omega) (by rw [World.size_alloc]; have := HBB.out.size; omega) ?_
                 intro v4 w9 hown4 hgrow4 _ hat4)
              | fail)
            go_roundw
            case rel =>
              refine ⟨k + 1, by omega, by go_num, ?_, ?_⟩
              · show LnSR _ _ _ _
                rw [HE.out]
                exact LnSR.more HV1.out HVO.out HV3.out ((Below.refl _ _).alloc (Nat.le_refl _) _) (HLN.out.below ((Below.refl _ _).alloc (Nat.le_refl _) _)) hgrow4 (by rw [HVN.out]; exact hown4)
              · exact Below.grown (HBB.out.alloc HBB.out.size _) hgrow4 (by rw [World.size_alloc]; have := HBB.out.size; omega) (own_ge1 HV2.out)
            case measure => simp [intOf]; omega
    · obtain rfl : N = k := by omega
      have HR2 := HR.out
      rw [← HDL.out] at HR2 HVN
      have HRR := Lib.hid HR2
      clear HR2
      go_wp2
      go_ret2
      exact ⟨.slice vA vn vc, by rw [HVN.out]; rfl, HRR.out.weaken HB1.out.size, HB1.out.trans (HB.out.mono HB1.out.size)⟩
end Go.Proofs.YtpnjnedfcdppaaaGreatDoor

/-
  The desk's answers have no line feed of their own: plain. No program is walked.
-/
namespace Go.Proofs.YtpnjnedfcdppaaaGreatDoor

def nn (l : List UInt8) : Prop := ∀ b ∈ l, b ≠ 10
instance (l : List UInt8) : Decidable (nn l) := by unfold nn; infer_instance
theorem nn_app {a b : List UInt8} (ha : nn a) (hb : nn b) : nn (a ++ b) := fun x hx => (List.mem_append.1 hx).elim (ha x) (hb x)
theorem nn_nil : nn [] := fun b h => by cases h
theorem nn_digit (n : Nat) (h : n < 10) : nn [UInt8.ofNat (48 + n)] := by
  intro b hb
  rw [List.mem_singleton.1 hb]
  intro e
  have h2 := congrArg UInt8.toNat e
  simp at h2
  omega
theorem nn_dgF : ∀ f n, nn (dgF f n)
  | 0, n => nn_nil
  | f + 1, n => by
    rw [dgF]
    split
    · next h => exact nn_digit n h
    · exact nn_app (nn_dgF f _) (nn_digit _ (Nat.mod_lt _ (by omega)))
theorem nn_dg (n : Nat) : nn (dg n) := nn_dgF 20 n
theorem nn_joinTail {sep : List UInt8} (hs : nn sep) : ∀ {r : List (List UInt8)}, (∀ x ∈ r, nn x) → nn (Lib.joinTail sep r)
  | [], _ => nn_nil
  | x :: r, h => by
    show nn (sep ++ x ++ Lib.joinTail sep r)
    exact nn_app (nn_app hs (h x (by simp))) (nn_joinTail hs fun y hy => h y (by simp [hy]))
theorem nn_join {sep : List UInt8} (hs : nn sep) {xs : List (List UInt8)} (h : ∀ x ∈ xs, nn x) : nn (Lib.join xs sep) := by
  cases xs with
  | nil => exact nn_nil
  | cons x r =>
    rw [Lib.join_cons]
    exact nn_app (h x (by simp)) (nn_joinTail hs fun y hy => h y (by simp [hy]))
theorem nn_jnd (l : List Int) : nn (jnd l) := nn_join (by decide) fun x hx => by
  obtain ⟨k, _, rfl⟩ := List.mem_map.1 hx
  exact nn_dg _
theorem nn_orN {l : List UInt8} (h : nn l) : nn (orN l) := by
  unfold orN
  split
  · decide
  · exact h
theorem nn_errT (e : Nat) : nn (errT e) := nn_app (by decide) (nn_dg e)
theorem nn_rowsT (rs : List (List Int)) : nn (rowsT rs) := nn_join (by decide) fun x hx => by
  obtain ⟨k, _, rfl⟩ := List.mem_map.1 hx
  exact nn_jnd k
theorem nn_told (kind : Int) (a : An) : nn (dTold kind a) := by
  unfold dTold
  repeat' split
  · decide
  · decide
  · decide
  · exact nn_jnd _
  · exact nn_dg _
theorem nn_deep (t : Tr) : nn (deepT t) := by
  unfold deepT
  split
  · decide
  · exact nn_dg _
theorem nn_ans (ops : List OP) (ws : List (List UInt8)) : nn (dAns ops ws).1 := by
  have he := nn_errT 1
  cases ws with
  | nil => exact nn_nil
  | cons first rest =>
    show nn (if kindB first ≠ 0 then opR ops (dOp (kindB first) rest)
    else if first = [112, 97, 116, 104] then pathR ops (nms 1 rest)
    else if first = [114, 111, 119, 115] then (if rest.length = 0 then orN (rowsT (rowsL (kys (runR ops).1))) else e1T, ops)
    else if first = [116, 114, 101, 101] then ordR ops rest
    else if first = [100, 101, 101, 112] then deepR ops rest
    else (e1T, ops)).1
    split
    · cases dOp (kindB first) rest with
      | none => exact he
      | some o =>
        obtain ⟨k, a, b⟩ := o
        show nn (if _ then _ else _ : List UInt8 × List OP).1
        split
        · exact nn_errT _
        · exact nn_told _ _
    · split
      · cases nms 1 rest with
        | none => exact he
        | some ks =>
          match ks with
          | [] => exact he
          | [k] =>
            show nn (if _ then _ else _ : List UInt8)
            split
            · exact nn_orN (nn_jnd _)
            · exact he
          | _ :: _ :: _ => exact he
      · split
        · show nn (if _ then _ else _ : List UInt8)
          split
          · exact nn_orN (nn_rowsT _)
          · exact he
        · split
          · match rest with
            | [] => exact he
            | [x] =>
              cases hd : dTree ops x with
              | none => rw [ordR_none hd]; exact he
              | some t => rw [ordR_some hd]; exact nn_orN (nn_jnd _)
            | _ :: _ :: _ => exact he
          · split
            · match rest with
              | [] => exact he
              | [x] =>
                cases hd : dTree ops x with
                | none => rw [deepR_none hd]; exact he
                | some t => rw [deepR_some hd]; exact nn_deep t
              | _ :: _ :: _ => exact he
            · exact he
theorem nn_count {l : List UInt8} (h : nn l) : l.count 10 = 0 := List.count_eq_zero.2 fun hm => h 10 hm rfl
theorem dRunL_count : ∀ (Ls : List (List (List UInt8))) (ops : List OP), (dRunL ops Ls).count 10 = Ls.length
  | [], ops => rfl
  | w :: r, ops => by
    show ((dAns ops w).1 ++ [10] ++ dRunL (dAns ops w).2 r).count 10 = r.length + 1
    rw [List.count_append, List.count_append, nn_count (nn_ans ops w), dRunL_count r]
    simp
    omega
theorem dRunL_end : ∀ (Ls : List (List (List UInt8))) (ops : List OP), dRunL ops Ls = [] ∨ Lib.hasSuffix (dRunL ops Ls) [10] = true
  | [], ops => .inl rfl
  | w :: r, ops => .inr (by
    show Lib.hasSuffix ((dAns ops w).1 ++ [10] ++ dRunL (dAns ops w).2 r) [10] = true
    unfold Lib.hasSuffix
    rw [List.isSuffixOf_iff_suffix]
    rcases dRunL_end r (dAns ops w).2 with h | h
    · rw [h, List.append_nil]
      exact List.suffix_append _ _
    · unfold Lib.hasSuffix at h
      rw [List.isSuffixOf_iff_suffix] at h
      exact h.trans (List.suffix_append _ _))
end Go.Proofs.YtpnjnedfcdppaaaGreatDoor

/-
  DeskCounts, walked.
-/
namespace Go.Proofs.YtpnjnedfcdppaaaGreatDoor
open Go.RowKit

theorem dl_lim {l : List UInt8} (h : 8192 < l.length ∨ 100 < (dln l).length) : deskP l = [101, 114, 114, 111, 114, 32, 50, 10] := by
  unfold deskP
  split
  · decide
  · rename_i h1
    rw [if_pos (by omega)]
    decide
theorem dl_runs {l : List UInt8} (h1 : l.length ≤ 8192) (h2 : (dln l).length ≤ 100) : deskP l = dRunL [] (dln l) := by
  unfold deskP
  rw [if_neg (by omega), if_neg (by omega)]
theorem deskP_len (l : List UInt8) : (deskP l).length ≤ 1000000000 := by
  rcases Decidable.em (8192 < l.length ∨ 100 < (dln l).length) with h | h
  · rw [dl_lim h]; decide
  · rw [dl_runs (by omega) (by omega), ← stK_all]
    have := (stK_len (dln l) (dln l).length (Nat.le_refl _)).1
    omega
theorem tr2 {a b c : World} (h : Below a.heap.size a b) (k : Below b.heap.size b c) : Below a.heap.size a c := h.trans (k.mono h.size)
set_option maxRecDepth 100000 in
set_option maxHeartbeats 8000000 in
theorem DCount_lim (l : List UInt8) (w : World) (hl : l.length ≤ 1048576) (h : 8192 < l.length ∨ 100 < (dln l).length) (hL : LD w) : Calls Tryz.prog 4 #[.string (bsv l)] w (RetYes w) := by
  have HLV := Lib.hid fun wz hz => deskLives_any wz hz
  have HLD := Lib.hid hL
  have HDL := Lib.hid (DeskLines_any l w hl hL)
  have HR := Lib.hid fun wz hz => Run_dany l wz (by omega) hz
  rw [dl_lim h] at HR
  have hsz : (bsv l).size = l.length := bsv_size l
  obtain ⟨m, hm⟩ : ∃ m, (dln l).length = m := ⟨_, rfl⟩
  have HM := Lib.hid hm
  obtain ⟨n, hn⟩ : ∃ n, l.length = n := ⟨_, rfl⟩
  rw [hm, hn] at h
  rw [hn] at hsz
  clear hm hn hl hL
  by_cases h1 : 8192 < n
  · have f1 : (8192 : Int) < (n : Int) := by omega
    clear h
    go_enter Tryz.func4, Tryz.ntmps4
    go_wp2_with fail
    refine HDL.out.mono ?_
    rintro e w1 ⟨v, rfl, -, hb1⟩
    rw [HM.out]
    have HB1 := Lib.hid hb1
    clear hb1
    go_wp2_with fail
    refine (HR.out _ (HLD.out.next HB1.out)).mono ?_
    rintro e w2 ⟨rfl, hb2⟩
    have HB2 := Lib.hid (tr2 HB1.out hb2)
    clear hb2
    go_wp2_with fail
    refine (HLV.out _ (HLD.out.next HB2.out)).mono ?_
    rintro e w3 ⟨rfl, hb3⟩
    have HB3 := Lib.hid (tr2 HB2.out hb3)
    clear hb3
    go_wp2_with fail
    refine (HLV.out _ (HLD.out.next HB3.out)).mono ?_
    rintro e w4 ⟨rfl, hb4⟩
    have HB4 := Lib.hid (tr2 HB3.out hb4)
    clear hb4
    go_wp2
    go_ret
    exact ⟨rfl, HB4.out⟩
  · have f1 : ¬ (8192 : Int) < (n : Int) := by omega
    have f2 : (100 : Int) < (m : Int) := by omega
    clear h
    go_enter Tryz.func4, Tryz.ntmps4
    go_wp2_with fail
    refine HDL.out.mono ?_
    rintro e w1 ⟨v, rfl, -, hb1⟩
    rw [HM.out]
    have HB1 := Lib.hid hb1
    clear hb1
    go_wp2_with fail
    refine (HR.out _ (HLD.out.next HB1.out)).mono ?_
    rintro e w2 ⟨rfl, hb2⟩
    have HB2 := Lib.hid (tr2 HB1.out hb2)
    clear hb2
    go_wp2_with fail
    refine (HLV.out _ (HLD.out.next HB2.out)).mono ?_
    rintro e w3 ⟨rfl, hb3⟩
    have HB3 := Lib.hid (tr2 HB2.out hb3)
    clear hb3
    go_wp2_with fail
    refine (HLV.out _ (HLD.out.next HB3.out)).mono ?_
    rintro e w4 ⟨rfl, hb4⟩
    have HB4 := Lib.hid (tr2 HB3.out hb4)
    clear hb4
    go_wp2
    go_ret
    exact ⟨rfl, HB4.out⟩
set_option maxRecDepth 100000 in
set_option maxHeartbeats 8000000 in
theorem DCount_ok (l : List UInt8) (w : World) (h1 : l.length ≤ 8192) (h2 : (dln l).length ≤ 100) (hL : LD w) : Calls Tryz.prog 4 #[.string (bsv l)] w (RetYes w) := by
  have HLV := Lib.hid fun wz hz => deskLives_any wz hz
  have HLD := Lib.hid hL
  have HDL := Lib.hid (DeskLines_any l w (by omega) hL)
  have HR := Lib.hid fun wz hz => Run_dany l wz (by omega) hz
  have hol := deskP_len l
  rw [dl_runs h1 h2] at HR hol
  have hc := dRunL_count (dln l) []
  have he := dRunL_end (dln l) []
  have hsz : (bsv l).size = l.length := bsv_size l
  obtain ⟨m, hm⟩ : ∃ m, (dln l).length = m := ⟨_, rfl⟩
  have HM := Lib.hid hm
  obtain ⟨n, hn⟩ : ∃ n, l.length = n := ⟨_, rfl⟩
  rw [hn] at hsz h1
  rw [hm] at hc h2
  obtain ⟨o, ho⟩ : ∃ o, dRunL [] (dln l) = o := ⟨_, rfl⟩
  rw [ho] at HR hc he hol
  have f1 : ¬ (8192 : Int) < (n : Int) := by omega
  have f2 : ¬ (100 : Int) < (m : Int) := by omega
  have HCN : Hid (∀ wz, Calls Tryz.prog 15 #[.string (bsv o), .string ⟨#[10]⟩] wz fun e w' => e = .returned (.int .i64 (m : Int)) ∧ w' = wz) := fun wz => by
    have h := Tryz.strings_Count_one (bsv o) 10 wz
    unfold Lib.countByte at h
    rw [bsv_data, hc] at h
    exact h
  have HSX : Hid (∀ wz, Calls Tryz.prog 16 #[.string (bsv o), .string ⟨#[10]⟩] wz fun e w' => e = .returned (.bool (Lib.hasSuffix o [10])) ∧ w' = wz) := fun wz => by
    have h := Tryz.strings_HasSuffix (bsv o) (bsv [10]) wz (by rw [bsv_size]; omega)
    rw [bsv_data, bsv_data] at h
    exact h
  have HE := Lib.hid he
  clear hm hn hL ho h1 h2 hc he hol
  go_enter Tryz.func4, Tryz.ntmps4
  go_wp2_with fail
  refine HDL.out.mono ?_
  rintro e w1 ⟨v, rfl, -, hb1⟩
  rw [HM.out]
  have HB1 := Lib.hid hb1
  clear hb1
  go_wp2_with fail
  refine (HR.out _ (HLD.out.next HB1.out)).mono ?_
  rintro e w2 ⟨rfl, hb2⟩
  have HB2 := Lib.hid (tr2 HB1.out hb2)
  clear hb2
  go_wp2_with fail
  refine (HLV.out _ (HLD.out.next HB2.out)).mono ?_
  rintro e w3 ⟨rfl, hb3⟩
  have HB3 := Lib.hid (tr2 HB2.out hb3)
  clear hb3
  go_wp2_with fail
  refine (HCN.out _).mono ?_
  rintro e w4 ⟨rfl, rfl⟩
  by_cases h0 : o = []
  · have hoe : o.isEmpty = true := by rw [h0]; rfl
    clear h0
    go_wp2
    go_ret
    exact ⟨by simp, HB3.out⟩
  · have hoe : o.isEmpty = false := by cases o with | nil => exact absurd rfl h0 | cons a t => rfl
    have hs := HE.out.resolve_left h0
    rw [hs] at HSX
    clear h0 hs
    go_wp2_with fail
    refine (HSX.out _).mono ?_
    rintro e w5 ⟨rfl, rfl⟩
    go_wp2
    go_ret
    exact ⟨by simp, HB3.out⟩
theorem DCountL_any (l : List UInt8) (w : World) (hl : l.length ≤ 1048576) (hL : LD w) : Calls Tryz.prog 4 #[.string (bsv l)] w (RetYes w) := by
  rcases Decidable.em (8192 < l.length ∨ 100 < (dln l).length) with h | h
  · exact DCount_lim l w hl h hL
  · exact DCount_ok l w (by omega) (by omega) hL
end Go.Proofs.YtpnjnedfcdppaaaGreatDoor

/-
  DeskFront, walked.
-/
namespace Go.Proofs.YtpnjnedfcdppaaaGreatDoor
open Go.RowKit

/- more lines only go on: plain -/
theorem spl_lf : ∀ (a b : List UInt8), spl 10 (a ++ 10 :: b) = spl 10 a ++ spl 10 b
  | [], b => by simp [spl]
  | x :: t, b => by
    have ih := spl_lf t b
    rw [List.cons_append, spl, spl, ih]
    by_cases hx : (x == 10) = true
    · rw [if_pos hx, if_pos hx]; rfl
    · rw [if_neg hx, if_neg hx]
      cases hs : spl 10 t with
      | nil => exact absurd hs (spl_ne 10 t)
      | cons y r => rfl
theorem dln_lf (a b : List UInt8) : dln (a ++ 10 :: b) = dln a ++ dln b := by
  unfold dln
  rw [spl_lf, List.map_append, List.filter_append]
theorem dln_nil : dln [] = [] := rfl
theorem dln_end (a : List UInt8) : dln (a ++ [10]) = dln a := by
  rw [dln_lf a [], dln_nil, List.append_nil]
theorem dRunL_front : ∀ (A B : List (List (List UInt8))) (ops : List OP), ∃ r, dRunL ops (A ++ B) = dRunL ops A ++ r
  | [], B, ops => ⟨dRunL ops B, rfl⟩
  | w :: t, B, ops => by
    obtain ⟨r, hr⟩ := dRunL_front t B (dAns ops w).2
    refine ⟨r, ?_⟩
    show (dAns ops w).1 ++ [10] ++ dRunL (dAns ops w).2 (t ++ B) = (dAns ops w).1 ++ [10] ++ dRunL (dAns ops w).2 t ++ r
    rw [hr, List.append_assoc, List.append_assoc, List.append_assoc]
/-- a as the law makes it: it ends a line -/
def endL (a : List UInt8) : List UInt8 := if a = [] then [] else if Lib.hasSuffix a [10] then a else a ++ [10]
theorem endL_is (a : List UInt8) : endL a = [] ∨ ∃ c, endL a = c ++ [10] := by
  unfold endL
  split
  · exact .inl rfl
  · split
    · next h =>
      unfold Lib.hasSuffix at h
      rw [List.isSuffixOf_iff_suffix] at h
      obtain ⟨c, hc⟩ := h
      exact .inr ⟨c, hc.symm⟩
    · exact .inr ⟨a, rfl⟩
theorem front_is (a b : List UInt8) (h1 : (endL a).length + b.length ≤ 8192) (h2 : (dln (endL a ++ b)).length ≤ 100) : Lib.hasPrefix (deskP (endL a ++ b)) (deskP (endL a)) = true := by
  have hd : dln (endL a ++ b) = dln (endL a) ++ dln b := by
    rcases endL_is a with h | ⟨c, h⟩
    · rw [h, dln_nil]; rfl
    · rw [h, dln_end, List.append_assoc]
      exact dln_lf c b
  have hl : (endL a ++ b).length ≤ 8192 := by rw [List.length_append]; exact h1
  rw [dl_runs hl h2, dl_runs (by omega) (by rw [hd, List.length_append] at h2; omega), hd]
  obtain ⟨r, hr⟩ := dRunL_front (dln (endL a)) (dln b) []
  rw [hr]
  unfold Lib.hasPrefix
  rw [List.isPrefixOf_iff_prefix]
  exact List.prefix_append _ _
theorem endL_len (a : List UInt8) : (endL a).length ≤ a.length + 1 := by
  unfold endL
  split
  · exact Nat.zero_le _
  · split
    · omega
    · simp
set_option maxRecDepth 100000 in
set_option maxHeartbeats 8000000 in
theorem DFrontL_any (a b : List UInt8) (w : World) (hl : (a.length + 1) + (b.length + 1) ≤ 1048576) (hL : LD w) : Calls Tryz.prog 5 #[.string (bsv a), .string (bsv b)] w (RetYes w) := by
  have HLV := Lib.hid fun wz hz => deskLives_any wz hz
  have HLD := Lib.hid hL
  have hel := endL_len a
  have HDL := Lib.hid fun wz hz => DeskLines_any (endL a ++ b) wz (by rw [List.length_append]; omega) hz
  have HR1 := Lib.hid fun wz hz => Run_dany (endL a ++ b) wz (by rw [List.length_append]; omega) hz
  have HR2 := Lib.hid fun wz hz => Run_dany (endL a) wz (by omega) hz
  rw [← bsv_app] at HDL HR1
  have HFR := Lib.hid (front_is a b)
  obtain ⟨x, hx⟩ : ∃ x, deskP (endL a ++ b) = x := ⟨_, rfl⟩
  obtain ⟨y, hy⟩ : ∃ y, deskP (endL a) = y := ⟨_, rfl⟩
  rw [hx] at HR1 HFR
  rw [hy] at HR2 HFR
  obtain ⟨m, hm⟩ : ∃ m, (dln (endL a ++ b)).length = m := ⟨_, rfl⟩
  have HM := Lib.hid hm
  have HSX : Hid (∀ wz, Calls Tryz.prog 16 #[.string (bsv a), .string ⟨#[10]⟩] wz fun e w' => e = .returned (.bool (Lib.hasSuffix a [10])) ∧ w' = wz) := fun wz => by
    have h := Tryz.strings_HasSuffix (bsv a) (bsv [10]) wz (by rw [bsv_size]; omega)
    rw [bsv_data, bsv_data] at h
    exact h
  have HPX : Hid (∀ wz, Calls Tryz.prog 17 #[.string (bsv x), .string (bsv y)] wz fun e w' => e = .returned (.bool (Lib.hasPrefix x y)) ∧ w' = wz) := fun wz => by
    have h := Tryz.strings_HasPrefix (bsv x) (bsv y) wz
    rw [bsv_data, bsv_data] at h
    exact h
  have hsa : (bsv a).size = a.length := bsv_size a
  have hsb : (bsv b).size = b.length := bsv_size b
  have hsA : (bsv (endL a)).size = (endL a).length := bsv_size _
  have HEL : Hid (endL a = if a = [] then [] else if Lib.hasSuffix a [10] then a else a ++ [10]) := by show _ = _; rfl
  obtain ⟨A, hA⟩ : ∃ A, endL a = A := ⟨_, rfl⟩
  rw [hA] at HDL HR1 HR2 HFR hel hsA HM HEL
  have hc1 : ¬ (9223372036854775807 < a.length + 1) := by omega
  have hc2 : ¬ (9223372036854775807 < A.length + b.length) := by omega
  clear hx hy hm hA hL
  obtain ⟨q, hq⟩ : ∃ q, A.length = q := ⟨_, rfl⟩
  rw [hq] at hsA hc2 HFR hel
  go_enter Tryz.func5, Tryz.ntmps5
  -- WALK
  by_cases h0 : a = []
  · have hae : a.isEmpty = true := by rw [h0]; rfl
    have hAa : A = a := by rw [HEL.out, if_pos h0, h0]
    subst hAa
    clear h0
    by_cases hlim : 8192 < q + b.length
    · have f1 : (8192 : Int) < (q : Int) + (b.length : Int) := by omega
      clear hlim
      go_wp2_with fail
      refine (HDL.out _ HLD.out).mono ?_
      rintro e w1 ⟨v, rfl, -, hb1⟩
      rw [HM.out]
      have HB1 := Lib.hid hb1
      clear hb1
      go_wp2_with fail
      refine (HLV.out _ (HLD.out.next HB1.out)).mono ?_
      rintro e w2 ⟨rfl, hb2⟩
      have HB2 := Lib.hid (tr2 HB1.out hb2)
      clear hb2
      go_wp2_with fail
      refine (HLV.out _ (HLD.out.next HB2.out)).mono ?_
      rintro e w3 ⟨rfl, hb3⟩
      have HB3 := Lib.hid (tr2 HB2.out hb3)
      clear hb3
      go_wp2
      go_ret
      exact ⟨rfl, HB3.out⟩
    · have f1 : ¬ (8192 : Int) < (q : Int) + (b.length : Int) := by omega
      by_cases hm : 100 < m
      · have f2 : (100 : Int) < (m : Int) := by omega
        clear hlim hm
        go_wp2_with fail
        refine (HDL.out _ HLD.out).mono ?_
        rintro e w1 ⟨v, rfl, -, hb1⟩
        rw [HM.out]
        have HB1 := Lib.hid hb1
        clear hb1
        go_wp2_with fail
        refine (HLV.out _ (HLD.out.next HB1.out)).mono ?_
        rintro e w2 ⟨rfl, hb2⟩
        have HB2 := Lib.hid (tr2 HB1.out hb2)
        clear hb2
        go_wp2_with fail
        refine (HLV.out _ (HLD.out.next HB2.out)).mono ?_
        rintro e w3 ⟨rfl, hb3⟩
        have HB3 := Lib.hid (tr2 HB2.out hb3)
        clear hb3
        go_wp2
        go_ret
        exact ⟨rfl, HB3.out⟩
      · have f2 : ¬ (100 : Int) < (m : Int) := by omega
        have hfr := HFR.out (by omega) (by rw [HM.out]; omega)
        rw [hfr] at HPX
        clear hlim hm hfr
        go_wp2_with fail
        refine (HDL.out _ HLD.out).mono ?_
        rintro e w1 ⟨v, rfl, -, hb1⟩
        rw [HM.out]
        have HB1 := Lib.hid hb1
        clear hb1
        go_wp2_with fail
        refine (HLV.out _ (HLD.out.next HB1.out)).mono ?_
        rintro e w2 ⟨rfl, hb2⟩
        have HB2 := Lib.hid (tr2 HB1.out hb2)
        clear hb2
        go_wp2_with fail
        refine (HR1.out _ (HLD.out.next HB2.out)).mono ?_
        rintro e w3 ⟨rfl, hb3⟩
        have HB3 := Lib.hid (tr2 HB2.out hb3)
        clear hb3
        go_wp2_with fail
        refine (HR2.out _ (HLD.out.next HB3.out)).mono ?_
        rintro e w4 ⟨rfl, hb4⟩
        have HB4 := Lib.hid (tr2 HB3.out hb4)
        clear hb4
        go_wp2_with fail
        refine (HPX.out _).mono ?_
        rintro e w5 ⟨rfl, rfl⟩
        go_wp2
        go_ret
        exact ⟨rfl, HB4.out⟩
  · have hae : a.isEmpty = false := by cases a with | nil => exact absurd rfl h0 | cons a t => rfl
    cases hs : Lib.hasSuffix a [10] with
    | true =>
      have hAa : A = a := by rw [HEL.out, if_neg h0, if_pos hs]
      rw [hs] at HSX
      subst hAa
      clear h0
      by_cases hlim : 8192 < q + b.length
      · have f1 : (8192 : Int) < (q : Int) + (b.length : Int) := by omega
        clear hlim
        go_wp2_with fail
        refine (HSX.out _).mono ?_
        rintro e w0 ⟨rfl, rfl⟩
        go_wp2_with fail
        refine (HDL.out _ HLD.out).mono ?_
        rintro e w1 ⟨v, rfl, -, hb1⟩
        rw [HM.out]
        have HB1 := Lib.hid hb1
        clear hb1
        go_wp2_with fail
        refine (HLV.out _ (HLD.out.next HB1.out)).mono ?_
        rintro e w2 ⟨rfl, hb2⟩
        have HB2 := Lib.hid (tr2 HB1.out hb2)
        clear hb2
        go_wp2_with fail
        refine (HLV.out _ (HLD.out.next HB2.out)).mono ?_
        rintro e w3 ⟨rfl, hb3⟩
        have HB3 := Lib.hid (tr2 HB2.out hb3)
        clear hb3
        go_wp2
        go_ret
        exact ⟨rfl, HB3.out⟩
      · have f1 : ¬ (8192 : Int) < (q : Int) + (b.length : Int) := by omega
        by_cases hm : 100 < m
        · have f2 : (100 : Int) < (m : Int) := by omega
          clear hlim hm
          go_wp2_with fail
          refine (HSX.out _).mono ?_
          rintro e w0 ⟨rfl, rfl⟩
          go_wp2_with fail
          refine (HDL.out _ HLD.out).mono ?_
          rintro e w1 ⟨v, rfl, -, hb1⟩
          rw [HM.out]
          have HB1 := Lib.hid hb1
          clear hb1
          go_wp2_with fail
          refine (HLV.out _ (HLD.out.next HB1.out)).mono ?_
          rintro e w2 ⟨rfl, hb2⟩
          have HB2 := Lib.hid (tr2 HB1.out hb2)
          clear hb2
          go_wp2_with fail
          refine (HLV.out _ (HLD.out.next HB2.out)).mono ?_
          rintro e w3 ⟨rfl, hb3⟩
          have HB3 := Lib.hid (tr2 HB2.out hb3)
          clear hb3
          go_wp2
          go_ret
          exact ⟨rfl, HB3.out⟩
        · have f2 : ¬ (100 : Int) < (m : Int) := by omega
          have hfr := HFR.out (by omega) (by rw [HM.out]; omega)
          rw [hfr] at HPX
          clear hlim hm hfr
          go_wp2_with fail
          refine (HSX.out _).mono ?_
          rintro e w0 ⟨rfl, rfl⟩
          go_wp2_with fail
          refine (HDL.out _ HLD.out).mono ?_
          rintro e w1 ⟨v, rfl, -, hb1⟩
          rw [HM.out]
          have HB1 := Lib.hid hb1
          clear hb1
          go_wp2_with fail
          refine (HLV.out _ (HLD.out.next HB1.out)).mono ?_
          rintro e w2 ⟨rfl, hb2⟩
          have HB2 := Lib.hid (tr2 HB1.out hb2)
          clear hb2
          go_wp2_with fail
          refine (HR1.out _ (HLD.out.next HB2.out)).mono ?_
          rintro e w3 ⟨rfl, hb3⟩
          have HB3 := Lib.hid (tr2 HB2.out hb3)
          clear hb3
          go_wp2_with fail
          refine (HR2.out _ (HLD.out.next HB3.out)).mono ?_
          rintro e w4 ⟨rfl, hb4⟩
          have HB4 := Lib.hid (tr2 HB3.out hb4)
          clear hb4
          go_wp2_with fail
          refine (HPX.out _).mono ?_
          rintro e w5 ⟨rfl, rfl⟩
          go_wp2
          go_ret
          exact ⟨rfl, HB4.out⟩
    | false =>
      have hAa : A = a ++ [10] := by rw [HEL.out, if_neg h0, if_neg (by rw [hs]; decide)]
      rw [hs] at HSX
      subst hAa
      rw [← bsv_app a [10]] at HDL HR1 HR2 hsA
      have hql : q = a.length + 1 := by rw [← hq]; simp
      clear h0
      by_cases hlim : 8192 < q + b.length
      · have f1 : (8192 : Int) < (q : Int) + (b.length : Int) := by omega
        clear hlim
        go_wp2_with fail
        refine (HSX.out _).mono ?_
        rintro e w0 ⟨rfl, rfl⟩
        go_wp2_with fail
        refine (HDL.out _ HLD.out).mono ?_
        rintro e w1 ⟨v, rfl, -, hb1⟩
        rw [HM.out]
        have HB1 := Lib.hid hb1
        clear hb1
        go_wp2_with fail
        refine (HLV.out _ (HLD.out.next HB1.out)).mono ?_
        rintro e w2 ⟨rfl, hb2⟩
        have HB2 := Lib.hid (tr2 HB1.out hb2)
        clear hb2
        go_wp2_with fail
        refine (HLV.out _ (HLD.out.next HB2.out)).mono ?_
        rintro e w3 ⟨rfl, hb3⟩
        have HB3 := Lib.hid (tr2 HB2.out hb3)
        clear hb3
        go_wp2
        go_ret
        exact ⟨rfl, HB3.out⟩
      · have f1 : ¬ (8192 : Int) < (q : Int) + (b.length : Int) := by omega
        by_cases hm : 100 < m
        · have f2 : (100 : Int) < (m : Int) := by omega
          clear hlim hm
          go_wp2_with fail
          refine (HSX.out _).mono ?_
          rintro e w0 ⟨rfl, rfl⟩
          go_wp2_with fail
          refine (HDL.out _ HLD.out).mono ?_
          rintro e w1 ⟨v, rfl, -, hb1⟩
          rw [HM.out]
          have HB1 := Lib.hid hb1
          clear hb1
          go_wp2_with fail
          refine (HLV.out _ (HLD.out.next HB1.out)).mono ?_
          rintro e w2 ⟨rfl, hb2⟩
          have HB2 := Lib.hid (tr2 HB1.out hb2)
          clear hb2
          go_wp2_with fail
          refine (HLV.out _ (HLD.out.next HB2.out)).mono ?_
          rintro e w3 ⟨rfl, hb3⟩
          have HB3 := Lib.hid (tr2 HB2.out hb3)
          clear hb3
          go_wp2
          go_ret
          exact ⟨rfl, HB3.out⟩
        · have f2 : ¬ (100 : Int) < (m : Int) := by omega
          have hfr := HFR.out (by omega) (by rw [HM.out]; omega)
          rw [hfr] at HPX
          clear hlim hm hfr
          go_wp2_with fail
          refine (HSX.out _).mono ?_
          rintro e w0 ⟨rfl, rfl⟩
          go_wp2_with fail
          refine (HDL.out _ HLD.out).mono ?_
          rintro e w1 ⟨v, rfl, -, hb1⟩
          rw [HM.out]
          have HB1 := Lib.hid hb1
          clear hb1
          go_wp2_with fail
          refine (HLV.out _ (HLD.out.next HB1.out)).mono ?_
          rintro e w2 ⟨rfl, hb2⟩
          have HB2 := Lib.hid (tr2 HB1.out hb2)
          clear hb2
          go_wp2_with fail
          refine (HR1.out _ (HLD.out.next HB2.out)).mono ?_
          rintro e w3 ⟨rfl, hb3⟩
          have HB3 := Lib.hid (tr2 HB2.out hb3)
          clear hb3
          go_wp2_with fail
          refine (HR2.out _ (HLD.out.next HB3.out)).mono ?_
          rintro e w4 ⟨rfl, hb4⟩
          have HB4 := Lib.hid (tr2 HB3.out hb4)
          clear hb4
          go_wp2_with fail
          refine (HPX.out _).mono ?_
          rintro e w5 ⟨rfl, rfl⟩
          go_wp2
          go_ret
          exact ⟨rfl, HB4.out⟩
end Go.Proofs.YtpnjnedfcdppaaaGreatDoor

/-
  What DeskZip wants: the keys told, put anew, lead to the same keys: plain. No program is walked.
-/
namespace Go.Proofs.YtpnjnedfcdppaaaGreatDoor

def dSt (ops : List OP) (Ls : List (List (List UInt8))) : List OP := Ls.foldl (fun o w => (dAns o w).2) ops
theorem dRunL_app : ∀ (A B : List (List (List UInt8))) (ops : List OP), dRunL ops (A ++ B) = dRunL ops A ++ dRunL (dSt ops A) B
  | [], B, ops => rfl
  | w :: t, B, ops => by
    show (dAns ops w).1 ++ [10] ++ dRunL (dAns ops w).2 (t ++ B) = (dAns ops w).1 ++ [10] ++ dRunL (dAns ops w).2 t ++ dRunL (dSt (dAns ops w).2 t) B
    rw [dRunL_app t B]
    simp
theorem dSt_len : ∀ (A : List (List (List UInt8))) (ops : List OP), (dSt ops A).length ≤ ops.length + A.length
  | [], ops => Nat.le_refl _
  | w :: t, ops => by
    have h1 := dSt_len t (dAns ops w).2
    have h2 := (dAns_len ops w).2
    show (dSt (dAns ops w).2 t).length ≤ ops.length + (t.length + 1)
    omega
/- a text, parted at a byte -/
theorem spl_at (c : UInt8) : ∀ (a b : List UInt8), spl c (a ++ c :: b) = spl c a ++ spl c b
  | [], b => by simp [spl]
  | x :: t, b => by
    have ih := spl_at c t b
    rw [List.cons_append, spl, spl, ih]
    by_cases hx : (x == c) = true
    · rw [if_pos hx, if_pos hx]; rfl
    · rw [if_neg hx, if_neg hx]
      cases hs : spl c t with
      | nil => exact absurd hs (spl_ne c t)
      | cons y r => rfl
theorem spl_no (c : UInt8) : ∀ {l : List UInt8}, (∀ b ∈ l, b ≠ c) → spl c l = [l]
  | [], _ => rfl
  | x :: t, h => by
    have hx : (x == c) = false := by simpa using h x (by simp)
    rw [spl, hx, spl_no c (l := t) fun b hb => h b (by simp [hb])]
    rfl
/-- the two lines that tell the zipped tree and the rows -/
def zEnd : List UInt8 := [116, 114, 101, 101, 32, 122, 105, 112, 10, 114, 111, 119, 115, 10]
def zLs : List (List (List UInt8)) := [[[116, 114, 101, 101], [122, 105, 112]], [[114, 111, 119, 115]]]
theorem zEnd_dln : dln zEnd = zLs := by decide +kernel
def tellT (K : List Int) : List UInt8 := orN (jnd (zT K).pre)
def tellR (K : List Int) : List UInt8 := orN (rowsT (rowsL K))
theorem zEnd_run (ops : List OP) : dRunL ops zLs = tellT (kys (runR ops).1) ++ 10 :: (tellR (kys (runR ops).1) ++ [10]) := by
  have e1 : dAns ops [[116, 114, 101, 101], [122, 105, 112]] = (tellT (kys (runR ops).1), ops) := by
    show ordR ops [[122, 105, 112]] = _
    exact ordR_some rfl
  have e2 : dAns ops [[114, 111, 119, 115]] = (tellR (kys (runR ops).1), ops) := rfl
  show (dAns ops [[116, 114, 101, 101], [122, 105, 112]]).1 ++ [10] ++ ((dAns (dAns ops [[116, 114, 101, 101], [122, 105, 112]]).2 [[114, 111, 119, 115]]).1 ++ [10] ++ []) = _
  rw [e1]
  show tellT _ ++ [10] ++ ((dAns ops [[114, 111, 119, 115]]).1 ++ [10] ++ []) = _
  rw [e2]
  simp
theorem nn_tellT (K : List Int) : nn (tellT K) := nn_orN (nn_jnd _)
theorem nn_tellR (K : List Int) : nn (tellR K) := nn_orN (nn_rowsT _)
/-- what is told, parted: the last three -/
theorem told_last (A : List (List (List UInt8))) : ∃ Y : List (List UInt8), spl 10 (dRunL [] (A ++ zLs)) = Y ++ [tellT (kys (runR (dSt [] A)).1), tellR (kys (runR (dSt [] A)).1), []] ∧ Y.length = A.length := by
  rw [dRunL_app, zEnd_run]
  have hlast : spl 10 (tellT (kys (runR (dSt [] A)).1) ++ 10 :: (tellR (kys (runR (dSt [] A)).1) ++ [10])) = [tellT (kys (runR (dSt [] A)).1), tellR (kys (runR (dSt [] A)).1), []] := by
    rw [spl_at, spl_no 10 (nn_tellT _)]
    have : tellR (kys (runR (dSt [] A)).1) ++ [10] = tellR (kys (runR (dSt [] A)).1) ++ 10 :: [] := rfl
    rw [this, spl_at, spl_no 10 (nn_tellR _)]
    rfl
  have hl := dRunL_count A []
  rcases dRunL_end A [] with h | h
  · rw [h] at hl ⊢
    refine ⟨[], by rw [List.nil_append, hlast]; rfl, by simpa using hl⟩
  · unfold Lib.hasSuffix at h
    rw [List.isSuffixOf_iff_suffix] at h
    obtain ⟨c, hc⟩ := h
    rw [← hc] at hl ⊢
    refine ⟨spl 10 c, ?_, ?_⟩
    · rw [List.append_assoc, List.singleton_append, spl_at, hlast]
    · rw [spl_length]
      rw [List.count_append] at hl
      simpa using hl
end Go.Proofs.YtpnjnedfcdppaaaGreatDoor

/-
  What DeskZip wants: numbers told and read again; keys put in whatever order: plain. No program is walked.
-/
namespace Go.Proofs.YtpnjnedfcdppaaaGreatDoor

/- numbers: told, then read -/
theorem nmA_app : ∀ (a b : List UInt8) (v : Nat), nmA v (a ++ b) = (nmA v a).bind fun x => nmA x b
  | [], b, v => rfl
  | x :: t, b, v => by
    rw [List.cons_append, nmA, nmA]
    split
    · exact nmA_app t b _
    · rfl
theorem nmA_digit (v d : Nat) (h : d < 10) : nmA v [UInt8.ofNat (48 + d)] = some (v * 10 + d) := by
  have e : (UInt8.ofNat (48 + d)).toNat = 48 + d := by simp; omega
  rw [nmA, e, if_pos (by omega), nmA]
  congr 1
  omega
theorem nmA_dgF : ∀ (f k : Nat), k < 10 ^ (f + 1) → nmA 0 (dgF (f + 1) k) = some k
  | 0, k, h => by
    rw [dgF, if_pos (by simpa using h), nmA_digit 0 k (by simpa using h)]
    simp
  | f + 1, k, h => by
    rw [dgF]
    split
    · next h1 => rw [nmA_digit 0 k h1]; simp
    · rw [nmA_app, nmA_dgF f (k / 10) (by rw [Nat.pow_succ] at h; omega)]
      show nmA (k / 10) _ = _
      rw [nmA_digit _ _ (Nat.mod_lt _ (by omega))]
      congr 1
      omega
theorem dgF_few : ∀ (m f k : Nat), k < 10 ^ (m + 1) → (dgF f k).length ≤ m + 1
  | _, 0, _, _ => by simp [dgF]
  | m, f + 1, k, h => by
    rw [dgF]
    split
    · simp
    · cases m with
      | zero => simp at h; omega
      | succ m =>
        have := dgF_few m f (k / 10) (by rw [Nat.pow_succ] at h; omega)
        simp
        omega
theorem nmb_dg {k : Nat} (h : k ≤ 1000000) : nmb (dg k) = some k := by
  unfold nmb
  have h1 := dgF_few 6 20 k (by omega)
  rw [if_neg (by show ¬ 7 < (dgF 20 k).length; omega)]
  exact nmA_dgF 19 k (by omega)
/- a digit is no blank, no tab, no semicolon, no line feed -/
theorem dgF_digit : ∀ (f k : Nat), ∀ b ∈ dgF f k, 48 ≤ b.toNat ∧ b.toNat ≤ 57
  | 0, _, b, h => by cases h
  | f + 1, k, b, h => by
    rw [dgF] at h
    have key : ∀ d, d < 10 → b ∈ [UInt8.ofNat (48 + d)] → 48 ≤ b.toNat ∧ b.toNat ≤ 57 := fun d hd hb => by
      rw [List.mem_singleton.1 hb]
      have e : (UInt8.ofNat (48 + d)).toNat = 48 + d := by simp; omega
      rw [e]
      omega
    split at h
    · next h1 => exact key k h1 h
    · rcases List.mem_append.1 h with h | h
      · exact dgF_digit f _ b h
      · exact key _ (Nat.mod_lt _ (by omega)) h
theorem dg_digit (k : Nat) : ∀ b ∈ dg k, 48 ≤ b.toNat ∧ b.toNat ≤ 57 := dgF_digit 20 k
theorem dg_not (k : Nat) (c : UInt8) (hc : c.toNat < 48 ∨ 57 < c.toNat) : ∀ b ∈ dg k, b ≠ c := fun b hb e => by
  have := dg_digit k b hb
  rw [e] at this
  omega
theorem dg_ne (k : Nat) : dg k ≠ [] := by
  unfold dg
  rw [dgF]
  split
  · simp
  · simp
/-- joined by a blank, then parted at it -/
theorem spl_tail (c : UInt8) : ∀ (r : List (List UInt8)) (x : List UInt8), (∀ y ∈ x :: r, ∀ b ∈ y, b ≠ c) → spl c (x ++ Lib.joinTail [c] r) = x :: r
  | [], x, h => by
    show spl c (x ++ []) = _
    rw [List.append_nil]
    exact spl_no c (h x (by simp))
  | y :: r, x, h => by
    have e : x ++ Lib.joinTail [c] (y :: r) = x ++ c :: (y ++ Lib.joinTail [c] r) := by simp [Lib.joinTail]
    rw [e, spl_at, spl_no c (h x (by simp)), spl_tail c r y fun z hz => h z (by simp [List.mem_cons.1 hz])]
    rfl
theorem spl_jnd {l : List Int} (h : l ≠ []) : spl 32 (jnd l) = l.map fun x => dg x.toNat := by
  cases l with
  | nil => exact absurd rfl h
  | cons x r =>
    show spl 32 (Lib.join (dg x.toNat :: r.map fun x => dg x.toNat) [32]) = _
    rw [Lib.join_cons, spl_tail]
    · rfl
    · intro y hy
      have hy' : y ∈ (x :: r).map fun x => dg x.toNat := hy
      obtain ⟨k, _, rfl⟩ := List.mem_map.1 hy'
      exact dg_not _ 32 (by decide)
/- a line that puts a key -/
def putW (k : Nat) : List UInt8 := [112, 117, 116, 32] ++ dg k ++ [32, 48]
theorem putW_no (k : Nat) (c : UInt8) (hc : c = 10 ∨ c = 59 ∨ c = 9) : ∀ b ∈ putW k, b ≠ c := by
  intro b hb
  unfold putW at hb
  rcases List.mem_append.1 hb with hb | hb
  · rcases List.mem_append.1 hb with hb | hb
    · rcases hc with rfl | rfl | rfl <;> (simp at hb; rcases hb with rfl | rfl | rfl | rfl <;> decide)
    · exact dg_not k c (by rcases hc with rfl | rfl | rfl <;> decide) b hb
  · rcases hc with rfl | rfl | rfl <;> (simp at hb; rcases hb with rfl | rfl <;> decide)
theorem tw_all {c : UInt8} : ∀ {l : List UInt8}, (∀ b ∈ l, b ≠ c) → l.takeWhile (· != c) = l
  | [], _ => rfl
  | x :: t, h => by
    have hx : (x != c) = true := by simpa using h x (by simp)
    rw [List.takeWhile_cons, hx, if_pos rfl, tw_all fun b hb => h b (by simp [hb])]
theorem putW_dln (k : Nat) : dln (putW k) = [[[112, 117, 116], dg k, [48]]] := by
  have hw : wds (putW k) = [[112, 117, 116], dg k, [48]] := by
    rw [wds_spl, map_no (putW_no k 9 (by simp))]
    have e : putW k = [112, 117, 116] ++ 32 :: (dg k ++ 32 :: [48]) := by simp [putW]
    rw [e, spl_at, spl_at, spl_no 32 (dg_not k 32 (by decide)), spl_no 32 (l := [112, 117, 116]) (by decide), spl_no 32 (l := [48]) (by decide)]
    have hne : (dg k).isEmpty = false := by
      cases h : dg k with
      | nil => exact absurd h (dg_ne k)
      | cons a t => rfl
    simp [hne]
  unfold dln
  rw [spl_no 10 (putW_no k 10 (by simp)), List.map_cons, List.map_nil, tw_all (putW_no k 59 (by simp)), hw]
  rfl
end Go.Proofs.YtpnjnedfcdppaaaGreatDoor

/-
  hedgref.Digits.
-/
namespace Go.Proofs.YtpnjnedfcdppaaaGreatDoor
open Go.RowKit

theorem dig_one : ∀ n : Nat, n < 10 → (⟨#[48, 49, 50, 51, 52, 53, 54, 55, 56, 57]⟩ : ByteArray).extract n (n + 1) = bsv (dg n) := by decide +kernel
theorem dgF_more {f k : Nat} (h : k < 10 ^ (f + 1)) : dgF (f + 2) k = dgF (f + 1) k := by
  rw [dgF_dec (f + 1) k (by rw [Nat.pow_succ]; omega), dgF_dec f k h]
theorem dg_step {n : Nat} (h : 10 ≤ n) (h2 : n < 10 ^ 18) : dg n = dg (n / 10) ++ dg (n % 10) := by
  have e1 : dg n = dgF 19 (n / 10) ++ [UInt8.ofNat (48 + n % 10)] := by
    show dgF (19 + 1) n = _
    rw [dgF, if_neg (by omega)]
  have e2 : dg (n / 10) = dgF 19 (n / 10) := dgF_more (f := 18) (by omega)
  have e3 : dg (n % 10) = [UInt8.ofNat (48 + n % 10)] := by
    show dgF (19 + 1) (n % 10) = _
    rw [dgF, if_pos (Nat.mod_lt _ (by omega))]
  rw [e1, e2, e3]
set_option maxRecDepth 100000 in
theorem Digits_any : ∀ (m n : Nat), n ≤ m → n < 10 ^ 18 → ∀ w : World, Calls Tryz.prog 104 #[I n] w fun e w' => e = .returned (.string (bsv (dg n))) ∧ w = w' := by
  intro m
  induction m with
  | zero =>
    intro n hn h18 w
    obtain rfl : n = 0 := by omega
    have hd := Lib.hid (dig_one 0 (by omega))
    go_enter Tryz.func104, Tryz.ntmps104
    go_wp2
    go_ret
    exact ⟨rfl, rfl⟩
  | succ m ih =>
    intro n hn h18 w
    rcases Nat.lt_or_ge n 10 with h | h
    · have hd := Lib.hid (dig_one n h)
      have f1 : (n : Int) < 10 := by omega
      go_enter Tryz.func104, Tryz.ntmps104
      go_wp2
      go_ret
      exact ⟨congrArg (fun s => Ending.returned (.string s)) hd.out, rfl⟩
    · have f1 : ¬ (n : Int) < 10 := by omega
      have H1 := Lib.hid (ih (n / 10) (by omega) (by omega))
      have H2 := Lib.hid (ih (n % 10) (by omega) (by omega))
      have HS := Lib.hid (dg_step h h18)
      have t1 : (n : Int).tdiv 10 = ((n / 10 : Nat) : Int) := by rw [Int.tdiv_eq_ediv_of_nonneg (by omega)]; omega
      have t2 : (n : Int).tmod 10 = ((n % 10 : Nat) : Int) := by rw [Int.tmod_eq_emod_of_nonneg (by omega)]; omega
      obtain ⟨a, ha⟩ : ∃ a, n / 10 = a := ⟨_, rfl⟩
      obtain ⟨b, hb⟩ : ∃ b, n % 10 = b := ⟨_, rfl⟩
      have u1 : wrap64 (a : Int) = (a : Int) := IntWalk.wrap64_in _ ⟨by omega, by omega⟩
      have u2 : wrap64 (b : Int) = (b : Int) := IntWalk.wrap64_in _ ⟨by omega, by omega⟩
      rw [ha] at H1 HS t1
      rw [hb] at H2 HS t2
      have hsa : (bsv (dg a)).size = (dg a).length := bsv_size _
      have hsb : (bsv (dg b)).size = (dg b).length := bsv_size _
      have la := dg_len a
      have lb := dg_len b
      have hc : ¬ (9223372036854775807 < (dg a).length + (dg b).length) := by omega
      clear ih ha hb
      go_enter Tryz.func104, Tryz.ntmps104
      go_wp2_with fail
      refine (H1.out _).mono ?_
      rintro e w1 ⟨rfl, rfl⟩
      go_wp2_with fail
      refine (H2.out _).mono ?_
      rintro e w2 ⟨rfl, rfl⟩
      go_wp2
      go_ret
      exact ⟨congrArg (fun s => Ending.returned (.string s)) (by rw [HS.out]; exact bsv_app _ _), rfl⟩
end Go.Proofs.YtpnjnedfcdppaaaGreatDoor

/-
  hedgref.wordsOf.
-/
namespace Go.Proofs.YtpnjnedfcdppaaaGreatDoor
open Go.RowKit

theorem jnd_ne {l : List Int} (h : l ≠ []) : jnd l ≠ [] := fun e => by
  have := congrArg (spl 32) e
  rw [spl_jnd h] at this
  cases l with
  | nil => exact h rfl
  | cons x r =>
    simp only [List.map_cons] at this
    exact dg_ne _ (List.cons.inj this).1
theorem join_own {w : World} {B : Nat} {v : Value} {ws : List (List UInt8)} (h : w.ownsRow B 9 1 v ws.length (ws.map fun x => Value.string (bsv x))) (hne : ws ≠ []) (sep : List UInt8) (hn : ws.length ≤ 1000000) (hl : (Lib.join ws sep).length ≤ 140737488355328) :
    ∃ A c, v = .slice A ws.length c ∧ Calls Tryz.prog 109 #[.slice A ws.length c, .string (bsv sep)] w fun e w' => e = .returned (.string (bsv (Lib.join ws sep))) ∧ Below w.heap.size w w' := by
  obtain ⟨g, c, cs, fz, e, hc, hw, hcap⟩ := LnS.own h hne
  refine ⟨_, c, e, ?_⟩
  obtain ⟨b, off, e1, hlt, hcl⟩ := hw.at_ (List.length_pos_iff.2 hne)
  cases e1
  have hm : (ws.map bsv).map (·.data.toList) = ws := by
    rw [List.map_map]
    have : ((fun x : ByteArray => x.data.toList) ∘ bsv) = id := by funext x; simp
    rw [this, List.map_id]
  have hj := Tryz.strings_Join g 0 c (ws.map bsv) (bsv sep) w (fun j x hx => by
    rw [List.getElem?_map] at hx
    cases hg : ws[j]? with
    | none => rw [hg] at hx; cases hx
    | some y =>
      rw [hg] at hx
      cases hx
      obtain ⟨hj, hy⟩ := List.getElem?_eq_some_iff.1 hg
      rw [hcl j hj, hy]) hlt (by rw [List.length_map]; omega) (by rw [List.length_map]; exact hw.rd.1) (by rw [hm, bsv_data]; exact hl)
  rw [hm, bsv_data, List.length_map] at hj
  exact hj
set_option maxRecDepth 100000 in
set_option maxHeartbeats 4000000 in
theorem wordsOf_any (A : Option Addr) (n c : Nat) (l : List Int) (w : World) (h : IS w A n c l) (hn : n ≤ 3000) (hb : ∀ x ∈ l, 0 ≤ x ∧ x < 1000000000) : Calls Tryz.prog 108 #[.slice A n c] w fun e w' => e = .returned (.string (bsv (orN (jnd l)))) ∧ Below w.heap.size w w' := by
  have H := Lib.hid h
  have HN := Lib.hid h.len
  have HBD := Lib.hid hb
  obtain ⟨j0, hj, hy0, hy1, hy2⟩ := info_parts str_info
  have HJ := Lib.hid hj
  have HY0 := Lib.hid hy0
  have HY1 := Lib.hid hy1
  have HY2 := Lib.hid hy2
  clear h hb hj hy0 hy1 hy2
  go_enter Tryz.func108, Tryz.ntmps108
  go_wp2
  go_loopw [3, 8] (fun v iv wr => ∃ k : Nat, k ≤ n ∧ iv = .int .i64 k ∧ Hid (wr.ownsRow w.heap.size 9 1 v k (((l.take k).map fun x => dg x.toNat).map fun x => Value.string (bsv x))) ∧ Hid (Below w.heap.size w wr)) (fun _ iv _ => n - (intOf iv).toNat)
  case atStart => exact ⟨0, Nat.zero_le _, rfl, World.ownsRow_nil _ _ _ _, Below.refl _ _⟩
  case round =>
    obtain ⟨k, hk, rfl, HO, HB⟩ := hrel
    by_cases hkn : k < n
    · have hkl : k < l.length := by rw [HN.out]; exact hkn
      obtain ⟨b, off, rfl, hbw, hcs⟩ := H.out.at_ (by omega)
      have hx0 := HBD.out l[k] (List.getElem_mem hkl)
      obtain ⟨x, hx⟩ : ∃ x : Nat, l[k] = x := ⟨l[k].toNat, by omega⟩
      have hc0 : wr.cell? ⟨b, off + k, none⟩ = some (I x) := by rw [← hx]; exact (HB.out.cell (by exact hbw)).trans (hcs k hkn)
      have HTK : Hid (((l.take (k + 1)).map fun x => dg x.toNat).map (fun x => Value.string (bsv x)) = ((l.take k).map fun x => dg x.toNat).map (fun x => Value.string (bsv x)) ++ [.string (bsv (dg x))]) := by
        show _ = _
        rw [List.take_succ_eq_append_getElem hkl, hx]
        simp
      have HD := Lib.hid (Digits_any x x (Nat.le_refl _) (by omega) wr)
      have hsz := HB.out.size
      clear hcs hx hx0
      go_wp2_with fail
      refine HD.out.mono ?_
      rintro e w1 ⟨rfl, rfl⟩
      go_wp2_with (first
        | (at_builtin
           refine wpList_append_own_at _ rfl (.tmp 12) (.tmp 15) 30 rfl w.heap.size 9 j0 _ 1 16 Tryz.underlying30 HJ.out HY0.out HY1.out HY2.out rfl (by omega) _ k _ rfl (own_below HO.out ((Below.refl _ _).alloc (Nat.le_refl _) _)) ⟨wr.heap.size, 0, none⟩ 1 1 [.string (bsv (dg x))] rfl rfl (cell_one_new _ _ _) (one_S _) (by unfold maxLen; omega) (by omega) (by simp; omega) ?_
           intro v5 w5 hown5 hgrow5 _ hat5)
        | fail)
      go_roundw
      case rel =>
        refine ⟨k + 1, by omega, by go_num, ?_, ?_⟩
        · show World.ownsRow _ _ _ _ _ _ _
          rw [HTK.out]
          exact hown5
        · exact Below.grown (HB.out.alloc hsz _) hgrow5 (by simp; omega) (own_ge1 HO.out)
      case measure => simp [intOf]; omega
    · obtain rfl : k = n := by omega
      have htk : l.take k = l := List.take_of_length_le (by rw [HN.out]; exact Nat.le_refl _)
      rw [htk] at HO
      rcases Nat.eq_zero_or_pos k with h0 | h0
      · subst h0
        obtain ⟨A7, c7, rfl⟩ := own_sl HO.out
        have hl0 : l = [] := List.eq_nil_of_length_eq_zero HN.out
        have HL0 := Lib.hid hl0
        clear htk hl0
        go_wp2
        go_ret
        exact ⟨by rw [HL0.out]; rfl, HB.out⟩
      · have hne : l ≠ [] := by intro e; have := HN.out; rw [e] at this; simp at this; omega
        have hml : (l.map fun x => dg x.toNat).length = k := by rw [List.length_map]; exact HN.out
        obtain ⟨A7, c7, hv, hj⟩ := join_own (ws := l.map fun x => dg x.toNat) (by rw [hml]; exact HO.out) (by intro e; exact hne (List.map_eq_nil_iff.1 e)) [32] (by omega) (by have := jnd_len (l := l) (by rw [HN.out]; exact hn); show (jnd l).length ≤ _; omega)
        rw [hml] at hv hj
        subst hv
        have HJN := Lib.hid hj
        have HOR : Hid (orN (jnd l) = Lib.join (l.map fun x => dg x.toNat) [32]) := by show _ = _; unfold orN; rw [if_neg (jnd_ne hne)]; rfl
        have f0 : ¬ ((k : Int) = 0) := by omega
        clear hj htk hne hml
        go_wp2_with fail
        refine HJN.out.mono ?_
        rintro e w1 ⟨rfl, hb1⟩
        have HB1 := Lib.hid (tr2 HB.out hb1)
        clear hb1
        go_wp2
        go_ret
        exact ⟨by rw [HOR.out]; rfl, HB1.out⟩
end Go.Proofs.YtpnjnedfcdppaaaGreatDoor
