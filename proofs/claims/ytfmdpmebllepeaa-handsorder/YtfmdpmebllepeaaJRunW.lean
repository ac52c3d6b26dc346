/-
  package hands: run, walked.
-/
import Derived.Test.YtfmdpmebllepeaaJRun
namespace Go.Proofs.Ytfmdpmebllepeaa
open Go.RowKit

theorem fWay_is {al : Nat} : ∃ wf, fWay al = .func (.func wf) #[] #[] := by
  unfold fWay
  split
  · exact ⟨_, rfl⟩
  · split
    · exact ⟨_, rfl⟩
    · split <;> exact ⟨_, rfl⟩
theorem JL.mono {w : World} {base base' : Nat} {ad : Nat → Nat} {s : Bs} {lk : Nat → Bool} (h : JL w base ad s lk) (hb : base' ≤ base) : JL w base' ad s lk := ⟨h.bd, h.inj, fun i hi => Nat.le_trans hb (h.ge i hi)⟩
/-- the state of run, with all that lies beside it -/
structure JRT (al B nh : Nat) (P : Nat → PL) (z sb mb tb : Nat) (W : Wd) (w0 w : World) : Prop where
  rs : JRS al w0.heap.size B nh P z sb mb tb W w
  bl : Below w0.heap.size w0 w
set_option maxRecDepth 100000 in
set_option maxHeartbeats 8000000 in
theorem run_any {al nh : Nat} {l ord : List Int} {es : List Sl} {Inv : Wd → Prop} (hS : Sound al nh (prog0 es) l ord Inv) (hal : al = 1 ∨ al = 2 ∨ al = 3 ∨ al = 4) (A PA OA : Option Addr) (n c pc on oc m : Nat) (w : World) (h : IS w A n c l) (hn : n ≤ 1000) (hP : RS w PA nh pc es) (hnh : nh ≤ 4) (hes : ∀ s ∈ es, s.n ≤ 4) (hO : IS w OA on oc ord) (hon : on ≤ 500)
    (hpn : Pn (Wend al nh (prog0 es) l ord).s.nx (Wend al nh (prog0 es) l ord).s.tl ((Wend al nh (prog0 es) l ord).s.nx 0) m) (hm : m ≤ 1000) (hDL : ∀ v, v < nh → (DL (Wend al nh (prog0 es) l ord) v).length ≤ 5) :
    Calls Try.prog 14 #[fWay al, .slice A n c, .slice PA nh pc, .slice OA on oc, I 4000] w (RetTold w.heap.size (DLs (Wend al nh (prog0 es) l ord) nh) (lft (Wend al nh (prog0 es) l ord).s m ((Wend al nh (prog0 es) l ord).s.nx 0)) w) := by
  obtain ⟨wf, hwf⟩ := fWay_is (al := al)
  rw [hwf]
  have HWF := Lib.hid hwf
  have HS := Lib.hid hS
  have HPN := Lib.hid hpn
  have HDL := Lib.hid hDL
  have HP := Lib.hid hP
  have HO := Lib.hid hO
  have HES := Lib.hid hes
  have HAL := Lib.hid hal
  obtain ⟨WE, hWE⟩ : ∃ WE, Wend al nh (prog0 es) l ord = WE := ⟨_, rfl⟩
  rw [hWE]
  have HWE := Lib.hid hWE
  obtain ⟨z0, hz0'⟩ : ∃ z0, w.heap.size = z0 := ⟨_, rfl⟩
  have HZ0 := Lib.hid hz0'
  have HA0 : Hid (Below w.heap.size w ((w.alloc (.cells #[I 4000] 3)).alloc (.cells #[.slice none 0 0, .slice none 0 0] 26))) := ((Below.refl _ _).alloc (Nat.le_refl _) _).alloc (by simp) _
  have hls := listOf_any A n c l ((w.alloc (.cells #[I 4000] 3)).alloc (.cells #[.slice none 0 0, .slice none 0 0] 26)) (h.below HA0.out) hn
  rw [show ((w.alloc (.cells #[I 4000] 3)).alloc (.cells #[.slice none 0 0, .slice none 0 0] 26)).heap.size = w.heap.size + 1 + 1 by simp] at hls
  have HMO : Hid (IBox ((w.alloc (.cells #[I 4000] 3)).alloc (.cells #[.slice none 0 0, .slice none 0 0] 26)) w.heap.size 4000) := (Below.heap_alloc _ _ _ (by simp)).trans (heap_alloc_new w _)
  have HTB : Hid (TBk ((w.alloc (.cells #[I 4000] 3)).alloc (.cells #[.slice none 0 0, .slice none 0 0] 26)) (w.heap.size + 1)) := by
    have := heap_alloc_new (w.alloc (.cells #[I 4000] 3)) (.cells #[.slice none 0 0, .slice none 0 0] 26)
    rw [World.size_alloc] at this
    exact this
  have HLS := Lib.hid hls
  have hmk := fun W => run_makeH nh (by omega) W
  clear hls hS h hP hO hes hpn hDL hal hWE hz0' hwf
  go_enter Try.func14, Try.ntmps14
  go_wp2_with fail
  refine HLS.out.mono ?_
  rintro e w1 ⟨rfl, hjl, hb1⟩
  have HB01 : Hid (Below w.heap.size w w1) := HA0.out.trans (hb1.mono (by omega))
  have HMO1 : Hid (IBox w1 w.heap.size 4000) := (hb1.block _ (by omega)).trans HMO.out
  have HTB1 : Hid (TBk w1 (w.heap.size + 1)) := (hb1.block _ (by omega)).trans HTB.out
  have HJL := Lib.hid hjl
  have hsz1 := hb1.size
  have hsz1' : w.heap.size + 1 + 1 ≤ w1.heap.size := by simpa using hsz1
  clear hjl hb1 hsz1
  obtain ⟨B, hB⟩ : ∃ B, w1.heap.size = B := ⟨_, rfl⟩
  have HBB := Lib.hid hB
  have hjh0 := made_jh w1 nh
  rw [hB] at hjh0 hsz1'
  have HJH0 := Lib.hid hjh0
  have hmk1 := hmk w1
  rw [hB] at hmk1
  clear hB hmk hjh0
  go_wp2
  go_loopw [28] (fun iv wr => ∃ k : Nat, k ≤ nh ∧ iv = .int .i64 k ∧ JH wr B nh (hands0 al (w.heap.size + 1 + 1) es k) ∧ Below B w1 wr) (fun iv _ => nh - (intOf iv).toNat)
  case atStart => exact ⟨0, Nat.zero_le _, rfl, HJH0.out.congr fun v _ i _ => (by unfold hands0; rw [if_neg (by omega)]), (Below.refl _ _).alloc (by rw [HBB.out]; exact Nat.le_refl _) _⟩
  case round =>
    obtain ⟨k, hk, rfl, hjh, hbl⟩ := hrel
    have HJH := Lib.hid hjh
    have HBL := Lib.hid hbl
    by_cases hlt : k < nh
    · obtain ⟨pb, poff, rfl, hpb, hpc⟩ := HP.out.at_ (by omega)
      have hkl : k < es.length := by rw [HP.out.len]; exact hlt
      have he : es[k]?.getD sl0 = es[k] := by rw [List.getElem?_eq_getElem hkl]; rfl
      have hc1 : wr.cell? ⟨pb, poff + k, none⟩ = some es[k].val := ((hbl.cell (by show pb < B; omega)).trans ((HB01.out.cell (by exact hpb)))).trans (hpc k hlt)
      obtain ⟨sA, sn, sc, hsv⟩ : ∃ sA sn sc, es[k].val = .slice sA sn sc := ⟨_, _, _, rfl⟩
      rw [hsv] at hc1
      have HSV : Hid ((es[k]?.getD sl0).val = .slice sA sn sc) := by rw [he]; exact hsv
      have cc : ∀ i, i < 9 → wr.cell? ⟨B, k * 9 + i, none⟩ = some (hz0 i) := fun i hi => by have := hjh.cell hlt hi; unfold hands0 at this; rw [if_neg (by omega)] at this; exact this
      have c0 : wr.cell? ⟨B, k * 9, none⟩ = some (I 0) := cc 0 (by omega)
      have c1 := cc 1 (by omega)
      have c2 := cc 2 (by omega)
      have c3 := cc 3 (by omega)
      have c4 := cc 4 (by omega)
      have c5 := cc 5 (by omega)
      have c6 := cc 6 (by omega)
      have c7 := cc 7 (by omega)
      have c8 := cc 8 (by omega)
      have ff := hjh.froz
      have f0 := ff (k * 9)
      have f1 := ff (k * 9 + 1)
      have f2 := ff (k * 9 + 2)
      have f3 := ff (k * 9 + 3)
      have f4 := ff (k * 9 + 4)
      have f5 := ff (k * 9 + 5)
      have f6 := ff (k * 9 + 6)
      have f7 := ff (k * 9 + 7)
      have f8 := ff (k * 9 + 8)
      clear cc ff hjh hbl hpc he hsv
      go_wp2
      go_roundw
      case rel => exact ⟨k + 1, by omega, by go_num, HJH.out.fill hlt HSV.out rfl HWF.out rfl, ((((((((HBL.out.setCell (p := ⟨B, _, none⟩) (Nat.le_refl _) _).setCell (p := ⟨B, _, none⟩) (Nat.le_refl _) _).setCell (p := ⟨B, _, none⟩) (Nat.le_refl _) _).setCell (p := ⟨B, _, none⟩) (Nat.le_refl _) _).setCell (p := ⟨B, _, none⟩) (Nat.le_refl _) _).setCell (p := ⟨B, _, none⟩) (Nat.le_refl _) _).setCell (p := ⟨B, _, none⟩) (Nat.le_refl _) _).setCell (p := ⟨B, _, none⟩) (Nat.le_refl _) _).setCell (p := ⟨B, _, none⟩) (Nat.le_refl _) _⟩
      case measure => simp [intOf]; omega
    · obtain rfl : nh = k := by omega
      have hBlt := hjh.lt
      -- all lies ready
      have HJH2 : Hid (JRT al B nh (prog0 es) (w.heap.size + 1 + 1) wr.heap.size w.heap.size (w.heap.size + 1) (Wd.begin_ l) w (wr.alloc (.cells #[I 0] 3))) := by
        have hbw : Below w.heap.size w wr := HB01.out.trans (hbl.mono (by omega))
        have hbw' : Below B w1 (wr.alloc (.cells #[I 0] 3)) := hbl.alloc (by omega) _
        have hlt1 : ∀ g, g < B → (wr.alloc (.cells #[I 0] 3)).heap[g]? = w1.heap[g]? := fun g hg => hbw'.block g hg
        have hjl' : JL (wr.alloc (.cells #[I 0] 3)) w.heap.size (fun i => w.heap.size + 1 + 1 + i) (st0 l) (fun _ => false) := (HJL.out.mono (by omega)).keep fun i hi => hlt1 _ (by have := HJL.out.lt hi; rw [HBB.out] at this; exact this)
        have hjs : JS w.heap.size B nh (fun i => w.heap.size + 1 + 1 + i) (st0 l) (fun _ => false) (hands0 al (w.heap.size + 1 + 1) es nh) (wr.alloc (.cells #[I 0] 3)) := ⟨hjl', hjh.keep (Below.heap_alloc _ _ _ hBlt), by omega⟩
        have hbw2 : Below w.heap.size w (wr.alloc (.cells #[I 0] 3)) := hbw.alloc (by omega) _
        refine ⟨⟨⟨_, _, gs_begin hjs HP.out.len fun s hs => ⟨PS.below (HP.out.each s hs) hbw2, HES.out s hs, fun h0 ad ha => ?_⟩, rfl⟩, ?_, ?_, by omega, by omega, by show 0 ≤ 4000; omega, ?_⟩, hbw2⟩
        · obtain ⟨b, off, e1, e2, _⟩ := (HP.out.each s hs).rd.2 h0
          rw [ha] at e1
          cases e1
          exact e2
        · exact heap_alloc_new wr _
        · exact (hlt1 _ (by omega)).trans HMO1.out
        · exact (hlt1 _ (by omega)).trans HTB1.out
      clear hjh hbl hBlt
      go_wp2
      obtain ⟨wo, hwo⟩ : ∃ wo, wo = wr := ⟨_, rfl⟩
      subst hwo
      go_loopw [45] (fun iv wr => ∃ k : Nat, k ≤ on ∧ iv = .int .i64 k ∧ JRT al B nh (prog0 es) (w.heap.size + 1 + 1) wo.heap.size w.heap.size (w.heap.size + 1) ((Wd.begin_ l).runs (alg al) (dds (prog0 es)) (fun v => (prog0 es v).length) (ordN nh (ord.take k))) w wr) (fun iv _ => on - (intOf iv).toNat)
      case atStart => exact ⟨0, Nat.zero_le _, rfl, HJH2.out⟩
      case round =>
        obtain ⟨k, hk, rfl, hjr⟩ := hrel
        have HJR := Lib.hid hjr
        have hinv := HS.out.runs (ordN nh (ord.take k)) HS.out.i0 ordN_lt
        have hnow : ((Wd.begin_ l).runs (alg al) (dds (prog0 es)) (fun v => (prog0 es v).length) (ordN nh (ord.take k))).now ≤ k := by
          have h1 := (runs_now (A := alg al) (D := dds (prog0 es)) (len := fun v => (prog0 es v).length) (ordN nh (ord.take k)) (Wd.begin_ l)).2
          have h2 := ordN_len (nh := nh) (ord := ord.take k)
          have h3 : (ord.take k).length ≤ k := List.length_take_le _ _
          have h4 : (Wd.begin_ l).now = 0 := rfl
          omega
        obtain ⟨W, hW⟩ : ∃ W, (Wd.begin_ l).runs (alg al) (dds (prog0 es)) (fun v => (prog0 es v).length) (ordN nh (ord.take k)) = W := ⟨_, rfl⟩
        have HW := Lib.hid hW
        rw [hW] at HJR hinv hnow
        have HOK := Lib.hid (HS.out.ok hinv)
        have HNOW := Lib.hid hnow
        clear hjr hinv hW hnow
        by_cases hlt : k < on
        · obtain ⟨b, off, rfl, hb, hc⟩ := HO.out.at_ (by omega)
          have hkl : k < ord.length := by rw [HO.out.len]; exact hlt
          have hck : wr.cell? ⟨b, off + k, none⟩ = some (I ord[k]) := (HJR.out.bl.cell (by exact hb)).trans (hc k hlt)
          obtain ⟨x, hx⟩ : ∃ x, ord[k] = x := ⟨_, rfl⟩
          rw [hx] at hck
          by_cases hin : 0 ≤ x ∧ x < (nh : Int)
          · obtain ⟨v, rfl⟩ : ∃ v : Nat, x = v := ⟨x.toNat, by omega⟩
            have hv : v < nh := by omega
            have HN := Lib.hid (ordN_yes hkl hx hv)
            have HG := Lib.hid (give_any HJR.out.rs HOK.out HAL.out hv rfl)
            have hv0 : 0 ≤ (v : Int) := by omega
            have hv1 : (v : Int) < (nh : Int) := hin.2
            clear hc hx hin
            go_wp2_with fail
            refine HG.out.mono ?_
            rintro e w2 ⟨rfl, hj2, hb2⟩
            have hj3 : JRT al B nh (prog0 es) (w.heap.size + 1 + 1) wo.heap.size w.heap.size (w.heap.size + 1) ((Wd.begin_ l).runs (alg al) (dds (prog0 es)) (fun v => (prog0 es v).length) (ordN nh (ord.take (k + 1)))) w w2 := by
              rw [HN.out, runs_snoc, HW.out, ← may_go1 v (by have := HNOW.out; omega)]
              exact ⟨hj2, HJR.out.bl.trans hb2⟩
            have HJ3 := Lib.hid hj3
            clear hj2 hb2 hj3
            go_wp2
            go_roundw
            case rel => exact ⟨k + 1, by omega, by go_num, HJ3.out⟩
            case measure => simp [intOf]; omega
          · have HN := Lib.hid (ordN_no (nh := nh) hkl (by rw [hx]; exact hin))
            have hj3 : JRT al B nh (prog0 es) (w.heap.size + 1 + 1) wo.heap.size w.heap.size (w.heap.size + 1) ((Wd.begin_ l).runs (alg al) (dds (prog0 es)) (fun v => (prog0 es v).length) (ordN nh (ord.take (k + 1)))) w wr := by
              rw [HN.out, HW.out]
              exact HJR.out
            have HJ3 := Lib.hid hj3
            clear hc hx hj3
            by_cases hx0 : 0 ≤ x
            · have hx1 : ¬ x < (nh : Int) := fun e => hin ⟨hx0, e⟩
              clear hin
              go_wp2
              go_roundw
              case rel => exact ⟨k + 1, by omega, by go_num, HJ3.out⟩
              case measure => simp [intOf]; omega
            · clear hin
              go_wp2
              go_roundw
              case rel => exact ⟨k + 1, by omega, by go_num, HJ3.out⟩
              case measure => simp [intOf]; omega
        · obtain rfl : on = k := by omega
          have hfull : ord.take on = ord := List.take_of_length_le (by rw [HO.out.len]; exact Nat.le_refl _)
          rw [hfull] at HW
          obtain ⟨wp, hwp⟩ : ∃ wp, wp = wr := ⟨_, rfl⟩
          subst hwp
          have HINV := Lib.hid (HS.out.runs (ordN nh ord) HS.out.i0 ordN_lt)
          rw [HW.out] at HINV
          clear hfull
          go_wp2
          go_loopw [19] (fun ag wr => ∃ (b : Bool) (k : Nat), ag = .bool b ∧ k ≤ 875 ∧ JRT al B nh (prog0 es) (w.heap.size + 1 + 1) wo.heap.size w.heap.size (w.heap.size + 1) (W.rounds (alg al) (dds (prog0 es)) (fun v => (prog0 es v).length) nh k) w wr ∧ (b = false → ∀ v, v < nh → ¬ (W.rounds (alg al) (dds (prog0 es)) (fun v => (prog0 es v).length) nh k).ix v < (prog0 es v).length)) (fun ag wr => match ag with | .bool true => 4001 - nowOf wr wo.heap.size | _ => 0)
          case atStart => exact ⟨true, 0, rfl, Nat.zero_le _, HJR.out, fun h => by cases h⟩
          case round =>
            obtain ⟨b, k, rfl, hk, hjr, hover⟩ := hrel
            have HJK := Lib.hid hjr
            have HOVER := Lib.hid hover
            have hinvk := HS.out.rounds HINV.out k
            have hnowk := HS.out.nows k hk
            rw [HW.out] at hnowk
            have hfin := HS.out.fin
            rw [HW.out] at hfin
            have HSTOP : Hid (∀ j, j ≤ 875 → (∀ v, v < nh → ¬ (W.rounds (alg al) (dds (prog0 es)) (fun v => (prog0 es v).length) nh j).ix v < (prog0 es v).length) → W.rounds (alg al) (dds (prog0 es)) (fun v => (prog0 es v).length) nh j = WE) := fun j hj h => by
              rw [← HWE.out]
              unfold Wend
              rw [HW.out]
              exact (rounds_stop hj h).symm
            have HSUCC : Hid (W.rounds (alg al) (dds (prog0 es)) (fun v => (prog0 es v).length) nh (k + 1) = (W.rounds (alg al) (dds (prog0 es)) (fun v => (prog0 es v).length) nh k).runs (alg al) (dds (prog0 es)) (fun v => (prog0 es v).length) (List.range nh)) := rfl
            obtain ⟨Wk, hWk⟩ : ∃ Wk, W.rounds (alg al) (dds (prog0 es)) (fun v => (prog0 es v).length) nh k = Wk := ⟨_, rfl⟩
            have HWK := Lib.hid hWk
            have HFIN : Hid (k = 875 → ∀ v, v < nh → ¬ Wk.ix v < (prog0 es v).length) := fun e v hv => by subst e; rw [← hWk]; exact hfin v hv
            rw [hWk] at HJK HOVER hinvk hnowk HSUCC
            have HINVK := Lib.hid hinvk
            have HNOWK := Lib.hid hnowk
            clear hjr hover hinvk hnowk hfin hWk
            cases b with
            | false =>
              have hover := HOVER.out rfl
              have hwe : Wk = WE := by rw [← HWK.out]; exact HSTOP.out k hk (by rw [HWK.out]; exact hover)
              subst hwe
              obtain ⟨ad, hs, hgs, had⟩ := HJK.out.rs.gs
              have hLF := HS.out.lf HINVK.out
              have HT := told_any hgs hLF.h0 hLF.h0t hLF.htl hLF.hnl hLF.hk hLF.hk2 hLF.hup hLF.hkb (by rw [← HWE.out]; exact HPN.out) hm hnh (by rw [← HWE.out]; exact HDL.out) (some ⟨B, 0, none⟩) nh (fun _ => rfl)
              rw [had] at HT
              have HT := Lib.hid HT
              have hsz := HJK.out.bl.size
              have htb1 := HJK.out.rs.tk
              clear hover hgs had hLF
              go_wp2_with fail
              refine HT.out.mono ?_
              rintro e w2 ⟨dv, lv, rfl, hd2, hl2, hb2⟩
              have ht2 : TBk w2 (w.heap.size + 1) := (hb2.block _ (jblk htb1)).trans htb1
              have HD2 := Lib.hid hd2
              have HL2 := Lib.hid hl2
              have HB2 := Lib.hid hb2
              have HT2 := Lib.hid ht2
              have t0 : w2.cell? ⟨w.heap.size + 1, 0, none⟩ = some (.slice none 0 0) := by rw [jcell ht2]; rfl
              have t1 : w2.cell? ⟨w.heap.size + 1, 1, none⟩ = some (.slice none 0 0) := by rw [jcell ht2]; rfl
              have f0 := jfroz (i := 0) ht2
              have f1 := jfroz (i := 1) ht2
              clear hd2 hl2 hb2 ht2
              obtain ⟨dA, dc, rfl, -⟩ := HD2.out.is_
              obtain ⟨lA, lc, rfl, -, -⟩ := HL2.out.is_
              obtain ⟨D, hD⟩ : ∃ D, DLs Wk nh = D := ⟨_, rfl⟩
              obtain ⟨L, hL⟩ : ∃ L, lft Wk.s m (Wk.s.nx 0) = L := ⟨_, rfl⟩
              rw [hD] at HD2
              rw [hL] at HL2
              have HDD := Lib.hid hD
              have HLL := Lib.hid hL
              have hdl : (DLs Wk nh).length = D.length := by rw [hD]
              have hll : (lft Wk.s m (Wk.s.nx 0)).length = L.length := by rw [hL]
              clear hD hL
              obtain ⟨dn, hdn⟩ : ∃ dn, D.length = dn := ⟨_, rfl⟩
              obtain ⟨ln, hln⟩ : ∃ ln, L.length = ln := ⟨_, rfl⟩
              have HDN := Lib.hid hdn
              have HLN := Lib.hid hln
              rw [hdn] at hdl
              rw [hln] at hll
              try rw [hdl]
              try rw [hll]
              try rw [hdn]
              try rw [hln]
              clear hdn hln htb1 hdl hll
              go_wp2
              have hfin := jset_at (i := 1) (v := .slice lA ln lc) (jset_at (i := 0) (v := .slice dA dn dc) HT2.out)
              have r0 : ((w2.setCell ⟨w.heap.size + 1, 0, none⟩ (.slice dA dn dc)).setCell ⟨w.heap.size + 1, 1, none⟩ (.slice lA ln lc)).cell? ⟨w.heap.size + 1, 0, none⟩ = some (.slice dA dn dc) := by rw [jcell hfin]; rfl
              have r1 : ((w2.setCell ⟨w.heap.size + 1, 0, none⟩ (.slice dA dn dc)).setCell ⟨w.heap.size + 1, 1, none⟩ (.slice lA ln lc)).cell? ⟨w.heap.size + 1, 1, none⟩ = some (.slice lA ln lc) := by rw [jcell hfin]; rfl
              clear hfin
              refine bodyPost_ret (v := .agg #[.slice dA dn dc, .slice lA ln lc]) (by simp [results, Try.results14, go_sem, r0, r1]) rfl ?_
              have hlt1 : w.heap.size + 1 < wr.heap.size := jblk HJK.out.rs.tk
              have hD2 : OwnD w2 w.heap.size (.slice dA dn dc) D := by
                have := own_mono1 HD2.out hsz
                unfold OwnD
                rw [HDN.out] at this ⊢
                exact this
              rw [HDD.out, HLL.out]
              refine ⟨_, _, rfl, ?_, ?_, ((HJK.out.bl.trans (HB2.out.mono hsz)).setCell (p := ⟨w.heap.size + 1, 0, none⟩) (by show w.heap.size ≤ w.heap.size + 1; omega) _).setCell (p := ⟨w.heap.size + 1, 1, none⟩) (by show w.heap.size ≤ w.heap.size + 1; omega) _⟩
              · refine hD2.keep fun g hg => ?_
                have hge := own_ge1 HD2.out g (by rw [HDN.out]; exact hg)
                have hne : g ≠ w.heap.size + 1 := by omega
                rw [Below.heap_setCell _ _ _ _ hne, Below.heap_setCell _ _ _ _ hne]
              · have hL2 : OwnI w2 wr.heap.size (.slice lA ln lc) L := by
                  have := HL2.out
                  rw [HLN.out] at this
                  exact this
                refine ⟨hL2.1, ?_⟩
                rcases hL2.2 with h0 | ⟨g, cap, cur, h1, h2, h3, h4⟩
                · exact .inl h0
                · have hne : g ≠ w.heap.size + 1 := by omega
                  exact .inr ⟨g, cap, cur, h1, by omega, by rw [Below.heap_setCell _ _ _ _ hne, Below.heap_setCell _ _ _ _ hne]; exact h3, h4⟩
            | true =>
              obtain ⟨wq, hwq⟩ : ∃ wq, wq = wr := ⟨_, rfl⟩
              subst hwq
              go_wp2
              go_loopw [19, 66] (fun ag iv wr => ∃ (b : Bool) (i : Nat), i ≤ nh ∧ ag = .bool b ∧ iv = .int .i64 i ∧ JRT al B nh (prog0 es) (w.heap.size + 1 + 1) wo.heap.size w.heap.size (w.heap.size + 1) (Wk.runs (alg al) (dds (prog0 es)) (fun v => (prog0 es v).length) (List.range i)) w wr ∧ (b = false → ∀ v, v < i → ¬ Wk.ix v < (prog0 es v).length) ∧ (b = true → k < 875 ∧ Wk.now < (Wk.runs (alg al) (dds (prog0 es)) (fun v => (prog0 es v).length) (List.range i)).now)) (fun _ iv _ => nh - (intOf iv).toNat)
              case atStart => exact ⟨false, 0, Nat.zero_le _, rfl, rfl, HJK.out, fun _ v hv => absurd hv (by omega), fun h => by cases h⟩
              case round =>
                obtain ⟨b, i, hi, rfl, rfl, hjr, hbf, hbt⟩ := hrel
                have HJI := Lib.hid hjr
                have HBF := Lib.hid hbf
                have HBT := Lib.hid hbt
                clear hjr hbf hbt
                by_cases hlt : i < nh
                · have hinvi := HS.out.runs (List.range i) HINVK.out (fun v hv => by have := List.mem_range.mp hv; omega)
                  have hnowi := runs_now (A := alg al) (D := dds (prog0 es)) (len := fun v => (prog0 es v).length) (List.range i) Wk
                  rw [List.length_range] at hnowi
                  have HSN : Hid (Wk.runs (alg al) (dds (prog0 es)) (fun v => (prog0 es v).length) (List.range (i + 1)) = (Wk.runs (alg al) (dds (prog0 es)) (fun v => (prog0 es v).length) (List.range i)).go1 (alg al) (dds (prog0 es)) (fun v => (prog0 es v).length) i) := by
                    rw [List.range_succ]
                    exact runs_snoc _ _ _
                  have HID : Hid ((∀ v, v < i → ¬ Wk.ix v < (prog0 es v).length) → Wk.runs (alg al) (dds (prog0 es)) (fun v => (prog0 es v).length) (List.range i) = Wk) := fun h => runs_idle _ fun v hv => h v (List.mem_range.mp hv)
                  obtain ⟨Wi, hWi⟩ : ∃ Wi, Wk.runs (alg al) (dds (prog0 es)) (fun v => (prog0 es v).length) (List.range i) = Wi := ⟨_, rfl⟩
                  have HWI := Lib.hid hWi
                  rw [hWi] at HJI HBT hinvi hnowi HSN HID
                  have HOKI := Lib.hid (HS.out.ok hinvi)
                  have HNI := Lib.hid hnowi
                  clear hinvi hnowi hWi
                  by_cases hix : Wi.ix i < (prog0 es i).length
                  · have hk8 : k < 875 := by
                      apply Classical.byContradiction
                      intro hn
                      have hall := HFIN.out (by omega)
                      have := HID.out fun v hv => hall v (by omega)
                      rw [this] at hix
                      exact hall i hlt hix
                    have hn4 : Wi.now < 4000 := by have := HNI.out; have := HNOWK.out; omega
                    have HG := Lib.hid (give_any HJI.out.rs HOKI.out HAL.out hlt (b := true) (by simp [hn4, hix]))
                    have hgo : Wi.go1 (alg al) (dds (prog0 es)) (fun v => (prog0 es v).length) i = Wi.go (alg al) (dds (prog0 es)) i := by unfold Wd.go1; rw [if_pos hix]
                    have HNEW : Hid (Wk.now < (Wi.go1 (alg al) (dds (prog0 es)) (fun v => (prog0 es v).length) i).now) := by
                      show Wk.now < _
                      rw [hgo]
                      show Wk.now < Wi.now + 1
                      have := HNI.out
                      omega
                    have HMG := Lib.hid (may_go1 (al := al) (P := prog0 es) (W := Wi) i hn4)
                    have hi0 : 0 ≤ (i : Int) := by omega
                    have hi1 : (i : Int) < (nh : Int) := by omega
                    clear hix hgo hn4
                    go_wp2_with fail
                    refine HG.out.mono ?_
                    rintro e w2 ⟨rfl, hj2, hb2⟩
                    rw [HMG.out, ← HSN.out] at hj2
                    have HJ3 : Hid (JRT al B nh (prog0 es) (w.heap.size + 1 + 1) wo.heap.size w.heap.size (w.heap.size + 1) (Wk.runs (alg al) (dds (prog0 es)) (fun v => (prog0 es v).length) (List.range (i + 1))) w w2) := ⟨hj2, HJI.out.bl.trans hb2⟩
                    clear hj2 hb2
                    go_wp2
                    go_roundw
                    case rel => exact ⟨true, i + 1, by omega, rfl, by go_num, HJ3.out, fun h => (by cases h), fun _ => ⟨hk8, by rw [HSN.out]; exact HNEW.out⟩⟩
                    case measure => simp [intOf]; omega
                  · have HG := Lib.hid (give_any HJI.out.rs HOKI.out HAL.out hlt (b := false) (by simp [hix]))
                    have HGO : Hid (Wi.go1 (alg al) (dds (prog0 es)) (fun v => (prog0 es v).length) i = Wi) := by show _ = _; unfold Wd.go1; rw [if_neg hix]
                    have HMG : Hid (Wi.may (alg al) (prog0 es) i = Wi) := by show _ = _; unfold Wd.may; rw [if_neg (fun e => hix e.2)]
                    have hi0 : 0 ≤ (i : Int) := by omega
                    have hi1 : (i : Int) < (nh : Int) := by omega
                    have HIX := Lib.hid hix
                    clear hix
                    go_wp2_with fail
                    refine HG.out.mono ?_
                    rintro e w2 ⟨rfl, hj2, hb2⟩
                    have hj3 : JRS al w.heap.size B nh (prog0 es) (w.heap.size + 1 + 1) wo.heap.size w.heap.size (w.heap.size + 1) (Wk.runs (alg al) (dds (prog0 es)) (fun v => (prog0 es v).length) (List.range (i + 1))) w2 := by
                      rw [HSN.out, HGO.out]
                      rw [HMG.out] at hj2
                      exact hj2
                    have HJ3 : Hid (JRT al B nh (prog0 es) (w.heap.size + 1 + 1) wo.heap.size w.heap.size (w.heap.size + 1) (Wk.runs (alg al) (dds (prog0 es)) (fun v => (prog0 es v).length) (List.range (i + 1))) w w2) := ⟨hj3, HJI.out.bl.trans hb2⟩
                    clear hj2 hb2 hj3
                    go_wp2
                    go_roundw
                    case rel =>
                      refine ⟨b, i + 1, by omega, rfl, by go_num, HJ3.out, fun hb v hv => ?_, fun hb => ⟨(HBT.out hb).1, by rw [HSN.out, HGO.out]; exact (HBT.out hb).2⟩⟩
                      have hold := HBF.out hb
                      by_cases e : v = i
                      · subst e
                        have := HIX.out
                        rw [HID.out hold] at this
                        exact this
                      · exact hold v (by omega)
                    case measure => simp [intOf]; omega
                · obtain rfl : nh = i := by omega
                  have hnq : nowOf wq wo.heap.size = Wk.now := by rw [HJK.out.rs.st.now]; rfl
                  have hnr := HJI.out.rs.st.now
                  rw [Int.toNat_natCast] at hnr
                  have hl4 := HJI.out.rs.le
                  have HNQ := Lib.hid hnq
                  have HNR := Lib.hid hnr
                  clear hnq hnr
                  cases b with
                  | true =>
                    obtain ⟨hk8, hnlt⟩ := HBT.out rfl
                    go_wp2
                    go_roundw
                    case rel => exact ⟨true, k + 1, rfl, by omega, by rw [HSUCC.out]; exact HJI.out, fun h => by cases h⟩
                    case measure => simp [HNQ.out, HNR.out]; omega
                  | false =>
                    have hall := HBF.out rfl
                    have HE : Hid (Wk.runs (alg al) (dds (prog0 es)) (fun v => (prog0 es v).length) (List.range nh) = Wk) := runs_idle _ fun v hv => hall v (List.mem_range.mp hv)
                    have HALL := Lib.hid hall
                    clear hall
                    go_wp2
                    go_roundw
                    case rel => exact ⟨false, k, rfl, hk, by rw [HWK.out]; have := HJI.out; rw [HE.out] at this; exact this, fun _ => by rw [HWK.out]; exact HALL.out⟩
                    case measure =>
                      have := HJK.out.rs.le
                      simp [HNQ.out]; omega

end Go.Proofs.Ytfmdpmebllepeaa
