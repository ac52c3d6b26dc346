/-
  hedgkeep.HandsOrder.
-/
import Derived.Test.YtfmdpmebllepeaaJOrders
import Derived.Test.YtfmdpmebllepeaaJRunAll
import Derived.Test.YtfmdpmebllepeaaJLivesW
namespace Go.Proofs.Ytfmdpmebllepeaa
open Go.RowKit Go.Maps

/-- how many deeds the first k have -/
def sln (P : Nat → PL) (k : Nat) : Nat := ((List.range k).map fun v => (P v).length).sum
theorem sln_succ (P : Nat → PL) (k : Nat) : sln P (k + 1) = sln P k + (P k).length := by
  unfold sln
  rw [List.range_succ, List.map_append, List.sum_append]
  simp
theorem tdl_sln (W : Wd) (P : Nat → PL) : ∀ nh, (Tdl W nh (fun v => (P v).length)).length = sln P nh
  | 0 => rfl
  | nh + 1 => by
    have h1 := tdl_sln W P nh
    rw [sln_succ]
    unfold Tdl at h1 ⊢
    rw [List.range_succ, List.flatMap_append, List.length_append, h1]
    simp
theorem sln_le {P : Nat → PL} (h : ∀ v, (P v).length ≤ 4) : ∀ k, sln P k ≤ 4 * k
  | 0 => by simp [sln]
  | k + 1 => by rw [sln_succ]; have := sln_le h k; have := h k; omega
/-- deeds that are told end behind their begin, and there is an order -/
theorem told_order {al : Nat} (hal : al = 1 ∨ al = 2 ∨ al = 3) {nh : Nat} {P : Nat → PL} {l ord : List Int} (hd : DOk nh P l) (ho : ord.length ≤ 500) {m : Nat} (hm : Pn (Wend al nh P l ord).s.nx (Wend al nh P l ord).s.tl ((Wend al nh P l ord).s.nx 0) m) :
    (∀ x ∈ Tdl (Wend al nh P l ord) nh (fun v => (P v).length), x.b ≤ x.e) ∧
      ordB (dds P) (Tdl (Wend al nh P l ord) nh (fun v => (P v).length)).length (b10 (ks l)) (Tdl (Wend al nh P l ord) nh (fun v => (P v).length)) (b10 (ks (lft (Wend al nh P l ord).s m ((Wend al nh P l ord).s.nx 0)))) = true := by
  obtain ⟨hc, h2, h3⟩ := end3 hal hd ho
  obtain ⟨hr, hl⟩ := left_is hc hm
  refine ⟨fun x hx => ?_, h3 (kl l) (kl (lft (Wend al nh P l ord).s m ((Wend al nh P l ord).s.nx 0))) (kl_kset l fun x h0 h9 => st0_has h0 h9) (kl_kset _ fun x h0 h9 => by rw [hl x]; exact ⟨fun h => ⟨h, h0, h9⟩, fun h => h.1⟩)⟩
  obtain ⟨w, j, _, hj, e⟩ := mem_Tdl.1 hx
  obtain ⟨b, en, is_, ht, hbe⟩ := h2 w j hj
  unfold tolD at e
  rw [ht] at e
  rw [← e]
  show (b : Int) ≤ (en : Int)
  omega
set_option maxRecDepth 100000 in
set_option maxHeartbeats 16000000 in
theorem order_law (algo : Int) (A : Option Addr) (n c : Nat) (l : List Int) (PA : Option Addr) (nh pc : Nat) (es : List Sl) (OA : Option Addr) (on oc : Nat) (ord : List Int) (w : World) (hw : (Lit.int .i64 algo).wf = true)
    (h : IS w A n c l) (hn : n ≤ 9223372036854775807) (hP : RS w PA nh pc es) (hnh : nh ≤ 9223372036854775807) (hes : ∀ s ∈ es, s.n ≤ 9223372036854775807) (hO : IS w OA on oc ord) (hon : on ≤ 9223372036854775807) :
    Calls Try.prog 4 #[I algo, .slice A n c, .slice PA nh pc, .slice OA on oc] w fun e w' => e = .returned (.bool true) ∧ Below w.heap.size w w' := by
  have HR := Lib.hid (run_all A PA OA n c nh pc on oc l ord es w algo hw h hP hO hn hnh hon hes)
  have H := Lib.hid h
  have HP := Lib.hid hP
  have HOL := Lib.hid hO.len
  clear h hP hO
  go_enter Try.func4, Try.ntmps4
  go_wp2_with fail
  refine HR.out.mono ?_
  rintro e w6 ⟨dA, lA, dn, dc, ln, lc, E, rfl, hb, hE0, hE⟩
  have HB6 := Lib.hid hb
  clear hb
  have HLV := Lib.hid (lives_any (w6.alloc (.cells #[.slice dA dn dc, .slice lA ln lc] 26)))
  go_wp2_with fail
  refine HLV.out.mono ?_
  rintro e w7 ⟨rfl, hb7⟩
  have hz : (w6.alloc (.cells #[.slice dA dn dc, .slice lA ln lc] 26)).heap.size = w6.heap.size + 1 := by simp
  rw [hz] at hb7
  have t0 : w7.cell? ⟨w6.heap.size, 0, none⟩ = some (.slice dA dn dc) := by
    rw [hb7.cell (p := ⟨w6.heap.size, 0, none⟩) (by show w6.heap.size < _; omega)]; simp
  have t1 : w7.cell? ⟨w6.heap.size, 1, none⟩ = some (.slice lA ln lc) := by
    rw [hb7.cell (p := ⟨w6.heap.size, 1, none⟩) (by show w6.heap.size < _; omega)]; simp
  have HT0 := Lib.hid t0
  have HT1 := Lib.hid t1
  have b67 : Below w6.heap.size w6 w7 := ((Below.refl _ _).alloc (Nat.le_refl _) _).trans (hb7.mono (by omega))
  have HB7 : Hid (Below w.heap.size w w7) := HB6.out.trans (b67.mono HB6.out.size)
  have hs7 : w6.heap.size < w7.heap.size := by have := hb7.size; omega
  have HS7 := Lib.hid hs7
  have HB67 := Lib.hid b67
  clear hb7 hz t0 t1 hs7 b67
  have HLV2 := Lib.hid (lives_any w7)
  by_cases hEz : E = 0
  · subst hEz
    clear hE0
    obtain ⟨al, rfl, hal, hchk, m, hm, hD, hL⟩ := hE rfl
    clear hE
    by_cases h4 : al = 4
    · subst h4
      clear hal hchk hm hD hL
      go_wp2_with fail
      refine HLV2.out.mono ?_
      rintro e w8 ⟨rfl, hb8⟩
      have HB8 : Hid (Below w.heap.size w w8) := HB7.out.trans (hb8.mono HB7.out.size)
      have t0 : w8.cell? ⟨w6.heap.size, 0, none⟩ = some (.slice dA dn dc) := (hb8.cell (p := ⟨w6.heap.size, 0, none⟩) HS7.out).trans HT0.out
      clear hb8
      go_wp2
      go_ret
      exact ⟨rfl, HB8.out⟩
    · have hal3 : al = 1 ∨ al = 2 ∨ al = 3 := by omega
      have h4b : ((al : Int) == 4) = false := by simp; omega
      obtain ⟨hdk, ho5, hs4⟩ := dok_of PA nh pc l es w HP.out hchk
      obtain ⟨hbe, hord⟩ := told_order hal3 hdk (ord := ord) (by rw [HOL.out]; exact ho5) hm
      have hmem : Todo nh es (Tdl (Wend al nh (prog0 es) l ord) nh (fun v => (prog0 es v).length)) := fun x hx => by
        obtain ⟨v, j, hv, hj, e⟩ := mem_Tdl.1 hx
        have := tolD_w (Wend al nh (prog0 es) l ord) v j
        rw [e] at this
        obtain ⟨e1, e2⟩ := Prod.mk.inj this
        rw [e1, e2]
        exact ⟨hv, hj, hdk.dees v j hj⟩
      have hsl := tdl_sln (Wend al nh (prog0 es) l ord) (prog0 es) nh
      have hnh4 := hdk.nh4
      have hl4 := hdk.l4
      have hle := sln_le hl4
      obtain ⟨L, hLd⟩ : ∃ L, Tdl (Wend al nh (prog0 es) l ord) nh (fun v => (prog0 es v).length) = L := ⟨_, rfl⟩
      obtain ⟨lf, hlf⟩ : ∃ lf, lft (Wend al nh (prog0 es) l ord).s m ((Wend al nh (prog0 es) l ord).s.nx 0) = lf := ⟨_, rfl⟩
      rw [hLd] at hbe hord hmem hsl hD
      rw [hlf] at hord hL
      have HBE := Lib.hid hbe
      have HORD := Lib.hid hord
      have HME := Lib.hid hmem
      have HD := Lib.hid (hD.below HB67.out)
      have HL := Lib.hid (hL.below HB67.out)
      have H7 := Lib.hid (H.out.below HB7.out)
      have HP7 := Lib.hid (HP.out.below HB7.out)
      have HLN : Hid (L.length = dn) := HD.out.len
      have HSL : Hid (sln (prog0 es) nh = dn) := Lib.hid (hsl.symm.trans HLN.out)
      have HLE : Hid (∀ k, sln (prog0 es) k ≤ 4 * k) := hle
      have HL4 : Hid (∀ v, (prog0 es v).length ≤ 4) := hl4
      have hdn16 : dn ≤ 16 := by rw [← HSL.out]; have := hle nh; omega
      have hls : ln ≤ 9223372036854775807 := by
        have := ris_len (left_is (end3 hal3 hdk (ord := ord) (by rw [HOL.out]; exact ho5)).1 hm).1
        rw [hlf] at this
        rw [← HL.out.len]
        omega
      clear hal hchk hm hD hL hdk ho5 hs4 hbe hord hmem hsl hLd hlf hl4 hle
      go_wp2
      go_loop [11, 47] (fun sv iv => ∃ k : Nat, k ≤ nh ∧ iv = .int .i64 k ∧ sv = .int .i64 (sln (prog0 es) k : Nat)) (fun _ iv => nh - (intOf iv).toNat)
      case atStart => exact ⟨0, Nat.zero_le _, rfl, rfl⟩
      case round =>
        obtain ⟨k, hk, rfl, rfl⟩ := hrel
        obtain ⟨q, hq⟩ : ∃ q, sln (prog0 es) k = q := ⟨_, rfl⟩
        have hq16 : q ≤ 16 := by rw [← hq]; have := HLE.out k; omega
        rw [hq]
        by_cases hlt : k < nh
        · have hkl : k < es.length := by rw [HP7.out.len]; exact hlt
          obtain ⟨pb, poff, rfl, hpb, hpc⟩ := HP7.out.at_ (by omega)
          have hpk := hpc k hlt
          obtain ⟨s, hs⟩ : ∃ s, es[k] = s := ⟨_, rfl⟩
          rw [hs] at hpk
          have hp0 : prog0 es k = s.L := by unfold prog0; rw [List.getElem?_eq_getElem hkl, hs]; rfl
          have hsok : PS w7 s.A s.n s.c s.L := HP7.out.each s (by rw [← hs]; exact List.getElem_mem hkl)
          obtain ⟨sA, sn, sc, sL⟩ := s
          have hsok : PS w7 sA sn sc sL := hsok
          have hp0 : prog0 es k = sL := hp0
          have hsn : sn ≤ 4 := by rw [← hsok.len, ← hp0]; exact HL4.out k
          have HQ : Hid (sln (prog0 es) (k + 1) = q + sn) := by show _ = _; rw [sln_succ, hq, hp0, hsok.len]
          clear hpc hs hp0 hsok hq
          go_wp2
          go_round
          case rel => exact ⟨k + 1, by omega, by go_num, by rw [HQ.out]; go_num⟩
          case measure => simp [intOf]; omega
        · obtain rfl : nh = k := by omega
          rw [HSL.out] at hq
          have hqd : dn = q := hq
          clear hq
          subst hqd
          have u0 := HT0.out
          go_wp2
          go_loopw [64] (fun iv wr => ∃ k : Nat, k ≤ dn ∧ iv = .int .i64 k ∧ Below w7.heap.size w7 wr) (fun iv _ => dn - (intOf iv).toNat)
          case atStart => exact ⟨0, Nat.zero_le _, rfl, Below.refl _ _⟩
          case round =>
            clear u0
            obtain ⟨k, hk, rfl, hbl⟩ := hrel
            have HBL := Lib.hid hbl
            by_cases hlt : k < dn
            · obtain ⟨g, rfl, hg, hc⟩ := HD.out.at_ (by omega)
              have hkl : k < L.length := by rw [HLN.out]; exact hlt
              have hbe := HBE.out _ (List.getElem_mem hkl)
              have hDk := hc k hkl
              obtain ⟨⟨dw, dj, db, de, di⟩, hd⟩ : ∃ d, L[k] = d := ⟨_, rfl⟩
              rw [hd] at hDk hbe
              have hbe : ¬ de < db := by have : (db : Int) ≤ de := hbe; omega
              have D0 : wr.cell? ⟨g, k * 5, none⟩ = some (I dw) := (HBL.out.cell (p := ⟨g, k * 5, none⟩) hg).trans (hDk 0 (by omega))
              have D1 : wr.cell? ⟨g, k * 5 + 1, none⟩ = some (I dj) := (HBL.out.cell (p := ⟨g, k * 5 + 1, none⟩) hg).trans (hDk 1 (by omega))
              have D2 : wr.cell? ⟨g, k * 5 + 2, none⟩ = some (I db) := (HBL.out.cell (p := ⟨g, k * 5 + 2, none⟩) hg).trans (hDk 2 (by omega))
              have D3 : wr.cell? ⟨g, k * 5 + 3, none⟩ = some (I de) := (HBL.out.cell (p := ⟨g, k * 5 + 3, none⟩) hg).trans (hDk 3 (by omega))
              have D4 : wr.cell? ⟨g, k * 5 + 4, none⟩ = some (.bool di) := (HBL.out.cell (p := ⟨g, k * 5 + 4, none⟩) hg).trans (hDk 4 (by omega))
              clear hc hDk hbl hd
              go_wp2
              go_roundw
              case rel => exact ⟨k + 1, by omega, by go_num, HBL.out.alloc HBL.out.size _⟩
              case measure => simp [intOf]; omega
            · obtain rfl : dn = k := by omega
              obtain ⟨wq, rfl⟩ : ∃ x, x = wr := ⟨wr, rfl⟩
              have hs6 : w6.heap.size < wq.heap.size := by have := HBL.out.size; have := HS7.out; omega
              have HS6 := Lib.hid hs6
              have U0 : Hid (wq.cell? ⟨w6.heap.size, 0, none⟩ = some (.slice dA dn dc)) := (hbl.cell (p := ⟨w6.heap.size, 0, none⟩) HS7.out).trans HT0.out
              have U1 : Hid (wq.cell? ⟨w6.heap.size, 1, none⟩ = some (.slice lA ln lc)) := (hbl.cell (p := ⟨w6.heap.size, 1, none⟩) HS7.out).trans HT1.out
              have HB8 : Hid (Below w.heap.size w wq) := HB7.out.trans (hbl.mono HB7.out.size)
              have HSQ := Lib.hid (H7.out.below hbl)
              have HLQ := Lib.hid (HL.out.below hbl)
              have HPQ := Lib.hid (HP7.out.below hbl)
              have HDQ := Lib.hid (HD.out.below hbl)
              clear hbl hs6
              by_cases h7 : 7 < dn
              · have h7d : decide (7 < dn) = true := by simp; omega
                have h7i : decide (7 < (dn : Int)) = true := by simp; omega
                go_wp2_with fail
                go_quiet (fail)
                go_wp2
                go_ret
                exact ⟨by simp, below_drewN HB8.out _⟩
              · have h7d : decide (7 < dn) = false := by simp; omega
                have h7i : decide (7 < (dn : Int)) = false := by simp; omega
                go_wp2_with fail
                go_region_held3 (fun w' => w'.cell? ⟨w6.heap.size, 0, none⟩ = some (.slice dA dn dc) ∧ w'.cell? ⟨w6.heap.size, 1, none⟩ = some (.slice lA ln lc)) (first
                  | exact ⟨U0.out, U1.out⟩
                  | exact ⟨(HBO.out.cell (p := ⟨w6.heap.size, 0, none⟩) HS6.out).trans U0.out, (HBO.out.cell (p := ⟨w6.heap.size, 1, none⟩) HS6.out).trans U1.out⟩
                  | exact ⟨(HB2.out.cell (p := ⟨w6.heap.size, 0, none⟩) HS6.out).trans U0.out, (HB2.out.cell (p := ⟨w6.heap.size, 1, none⟩) HS6.out).trans U1.out⟩
                  | exact ⟨(HB1.out.cell (p := ⟨w6.heap.size, 0, none⟩) HS6.out).trans U0.out, (HB1.out.cell (p := ⟨w6.heap.size, 1, none⟩) HS6.out).trans U1.out⟩)
                  (first
                  | (go_at_call 11
                     refine (keySet_any _ _ _ _ _ (by first | exact HSQ.out.below (Below.refl _ _).drew | exact HLQ.out.below (Below.refl _ _).drew | exact HSQ.out.below HB1.out | exact HLQ.out.below HB1.out) (by omega)).mono ?_
                     rintro e w1 ⟨rfl, hb1⟩
                     first
                       | (have HB2 : Hid (Below wq.heap.size wq w1) := HB1.out.trans (hb1.mono HB1.out.size))
                       | (have HB1 : Hid (Below wq.heap.size wq w1) := ((Below.refl _ _).drew).trans (hb1.mono (Nat.le_refl _)))
                     clear hb1)
                  | (go_at_call 10
                     refine (orders_any PA nh pc es dn (ks l) (ks lf) dA dn dc L _ rfl (by omega) (HPQ.out.below HB2.out) (HDQ.out.below HB2.out) HME.out).mono ?_
                     rw [← HLN.out, HORD.out]
                     rintro e w3 ⟨rfl, hb3⟩
                     have HBO : Hid (Below wq.heap.size wq w3) := HB2.out.trans (hb3.mono HB2.out.size)
                     clear hb3))
                all_goals
                  go_wp2
                  go_ret
                  exact ⟨by simp, HB8.out.trans (HBO.out.mono HB8.out.size)⟩
  · obtain ⟨rfl, -⟩ := hE0 hEz
    have hne : (E != 0) = true := by simp; exact hEz
    have hne2 : (E == 0) = false := by simp; exact hEz
    clear hE
    go_wp2_with fail
    refine HLV2.out.mono ?_
    rintro e w8 ⟨rfl, hb8⟩
    have HB8 : Hid (Below w.heap.size w w8) := HB7.out.trans (hb8.mono HB7.out.size)
    have t0 : w8.cell? ⟨w6.heap.size, 0, none⟩ = some (.slice dA 0 dc) := (hb8.cell (p := ⟨w6.heap.size, 0, none⟩) HS7.out).trans HT0.out
    clear hb8 hEz
    go_wp2
    go_ret
    exact ⟨by simp, HB8.out⟩

end Go.Proofs.Ytfmdpmebllepeaa
