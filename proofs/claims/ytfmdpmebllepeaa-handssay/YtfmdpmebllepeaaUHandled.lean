/-
  hedgref.Handled: all steps of all hands; what is told, hand by hand; what is left.
-/
import Derived.Test.YtfmdpmebllepeaaUStepAAll
import Derived.Test.YtfmdpmebllepeaaURow2All
import Derived.Test.YtfmdpmebllepeaaGInts
import Derived.Test.YtfmdpmebllepeaaJToldAll
import Derived.Deep.DeepCutAuto
import Derived.Deep.LoopGhost
import Derived.Deep.RegionHeld3
import Derived.Deep.AppendLies
namespace Go.Proofs.Ytfmdpmebllepeaa
open Go.RowKit

def nowB (w : World) (bb : Nat) : Nat := match w.cell? ⟨bb, 4, none⟩ with | some (.int _ n) => n.toNat | _ => 0
theorem UT.nowB {al base bb gH cH nh : Nat} {pv : Value} {P : Nat → PL} {W : Wd} {w0 w : World} (h : UT al base bb gH cH nh pv P W w0 w) : nowB w bb = W.now := by
  obtain ⟨gB, cB, dv, L, hu, _⟩ := h.ub
  unfold Go.Proofs.Ytfmdpmebllepeaa.nowB
  rw [hu.fb.2.2.2.2.1]
  rfl
def TQk (w : World) (g : Nat) (dv lv : Value) : Prop := w.heap[g]? = some (.cells #[dv, lv] 26 (0, 0))
theorem UF.tqk {base : Nat} {w w' : World} {g : Nat} {dv lv : Value} (h : UF base w w') (ht : TQk w g dv lv) : TQk w' g dv lv := h.blk ht (by decide) (by decide) (by decide) (by decide)
theorem own_ten {w : World} {B q : Nat} {v : Value} {l : List Int} (hq : l.length = q) (h : w.ownsRow B 3 1 v (q + 1) (l.map I ++ [I 10])) :
    ∃ g c, v = .slice (some ⟨g, 0, none⟩) (q + 1) c ∧ (∃ C, w.heap[g]? = some (.cells C 3 (0, 0))) ∧ ∀ k, k < q + 1 → w.cell? ⟨g, k, none⟩ = some (I ((st0 l).key (k + 1))) := by
  have h' := h
  rcases h.2 with ⟨_, h0⟩ | ⟨g, cap, cur, rfl, h2, h3, h4⟩
  · omega
  · refine ⟨g, cap, rfl, ⟨cur, h3⟩, fun k hk => ?_⟩
    have hl : k < (l.map I ++ [I 10]).length := by simp; omega
    rw [urow_cell h' hl]
    have hk2 : k < (l ++ [10]).length := by simp; omega
    rw [← st0_cell hk2]
    have e : l.map I ++ [I 10] = (l ++ [10]).map I := by simp
    rw [e, List.getElem?_map, List.getElem?_eq_getElem hk2]
    rfl
theorem UB.closed2 {w : World} {base bb gB cB gH cH al nh z : Nat} {ix : Nat → Nat} {hs : Nat → Hd} {pv dv : Value} {now : Nat} {D : List Dn} {l : List Int} (hz : l.length + 1 = z) (h : UB w base bb gB cB gH cH al nh (stp l z) (fun _ => false) ix hs pv dv now D) :
    UB (w.setCell ⟨gB, z * 4 + 1, none⟩ (I (-1))) base bb gB cB gH cH al nh (st0 l) (fun _ => false) ix hs pv dv now D := by
  subst hz
  exact h.closed
theorem prog_le {w : World} {PA : Option Addr} {nh pc : Nat} {es : List Sl} (hP : RS w PA nh pc es) (hes : ∀ s ∈ es, s.n ≤ 4) (v : Nat) : (prog0 es v).length ≤ 4 := by
  unfold prog0
  by_cases h : v < es.length
  · rw [List.getElem?_eq_getElem h]
    have h1 := hP.each es[v] (List.getElem_mem h)
    have h2 := hes es[v] (List.getElem_mem h)
    have h3 : es[v].L.length = es[v].n := PS.len h1
    show es[v].L.length ≤ 4
    omega
  · rw [List.getElem?_eq_none (by omega)]
    exact Nat.zero_le _
theorem told_on {wS w w9 : World} {z g9 cap9 q : Nat} {dvo lv : Value} {D : List Dn} {d : Dn} {o : Obj} (hq : D.length = q) (htq : TQk w z dvo lv) (hown : OwnD w z dvo D) (hbl : Below z wS w) (hg : (w.alloc o).grownBy w9 dvo.ownBlock)
    (hown9 : w9.ownsRow z 37 5 (.slice (some ⟨g9, 0, none⟩) (q + 1) cap9) (q + 1) (flatD D ++ dcells d)) :
    TQk w9 z dvo lv ∧ TQk (w9.setCell ⟨z, 0, none⟩ (.slice (some ⟨g9, 0, none⟩) (q + 1) cap9)) z (.slice (some ⟨g9, 0, none⟩) (q + 1) cap9) lv ∧
      OwnD (w9.setCell ⟨z, 0, none⟩ (.slice (some ⟨g9, 0, none⟩) (q + 1) cap9)) z (.slice (some ⟨g9, 0, none⟩) (q + 1) cap9) (D ++ [d]) ∧ Below z wS (w9.setCell ⟨z, 0, none⟩ (.slice (some ⟨g9, 0, none⟩) (q + 1) cap9)) := by
  have h1 : TQk w9 z dvo lv := grown_keep hown hg htq (by decide)
  have hz := jblk htq
  refine ⟨h1, jset_at h1, ?_, ((hbl.alloc (Nat.le_of_lt hz) o).grown hg (by rw [World.size_alloc]; omega) (own_ge1 hown)).setCell (p := ⟨z, 0, none⟩) (Nat.le_refl _) _⟩
  unfold OwnD
  have h1' : w9.heap[z]? = some (.cells #[dvo, lv] 26 (0, 0)) := h1
  rw [List.length_append, hq, flatD_append, show flatD [d] = dcells d by simp [flatD]]
  exact urow_far hown9 (p := ⟨z, 0, none⟩) h1' (by decide) _
theorem left_on {wS w w9 : World} {z g9 cap9 q : Nat} {dvo lv : Value} {D : List Dn} {K : List Int} {x : Int} {o : Obj} (hq : K.length = q) (htq : TQk w z dvo lv) (hownD : OwnD w z dvo D) (hown : OwnI w z lv K) (hbl : Below z wS w) (hg : (w.drew.alloc o).grownBy w9 lv.ownBlock)
    (hown9 : w9.ownsRow z 3 1 (.slice (some ⟨g9, 0, none⟩) (q + 1) cap9) (q + 1) (K.map I ++ [I x])) :
    TQk w9 z dvo lv ∧ TQk (w9.setCell ⟨z, 1, none⟩ (.slice (some ⟨g9, 0, none⟩) (q + 1) cap9)) z dvo (.slice (some ⟨g9, 0, none⟩) (q + 1) cap9) ∧
      OwnI (w9.setCell ⟨z, 1, none⟩ (.slice (some ⟨g9, 0, none⟩) (q + 1) cap9)) z (.slice (some ⟨g9, 0, none⟩) (q + 1) cap9) (K ++ [x]) ∧ OwnD (w9.setCell ⟨z, 1, none⟩ (.slice (some ⟨g9, 0, none⟩) (q + 1) cap9)) z dvo D ∧ Below z wS (w9.setCell ⟨z, 1, none⟩ (.slice (some ⟨g9, 0, none⟩) (q + 1) cap9)) := by
  have hown' : w.drew.ownsRow z 3 1 lv K.length (K.map I) := hown
  have hD' : w.drew.ownsRow z 37 5 dvo D.length (flatD D) := hownD
  have h1 : TQk w9 z dvo lv := grown_keep hown' hg (by exact htq) (by decide)
  have h2 : OwnD w9 z dvo D := row_keep hown' hg hD' (by decide)
  have hz := jblk htq
  have h1' : w9.heap[z]? = some (.cells #[dvo, lv] 26 (0, 0)) := h1
  refine ⟨h1, jset_at h1, ?_, urow_far h2 (p := ⟨z, 1, none⟩) h1' (by decide) _, ((hbl.drew.alloc (by exact Nat.le_of_lt hz) o).grown hg (by rw [World.size_alloc]; exact Nat.le_succ_of_le (Nat.le_of_lt hz)) (own_ge1 hown')).setCell (p := ⟨z, 1, none⟩) (Nat.le_refl _) _⟩
  unfold OwnI
  rw [List.length_append, hq, List.map_append]
  exact urow_far hown9 (p := ⟨z, 1, none⟩) h1' (by decide) _
set_option maxRecDepth 100000 in
set_option maxHeartbeats 16000000 in
theorem handled_any {al nh : Nat} {l ord : List Int} {es : List Sl} {Inv : Wd → Prop} (hS : Sound al nh (prog0 es) l ord Inv) (hal : al = 1 ∨ al = 2 ∨ al = 3 ∨ al = 4) (A PA OA : Option Addr) (n c pc on oc m : Nat) (w : World) (h : IS w A n c l) (hl10 : l.length ≤ 10) (hP : RS w PA nh pc es) (hnh : nh ≤ 4) (hes : ∀ s ∈ es, s.n ≤ 4) (hO : IS w OA on oc ord) (hon : on ≤ 500)
    (hpn : Pn (Wend al nh (prog0 es) l ord).s.nx (Wend al nh (prog0 es) l ord).s.tl ((Wend al nh (prog0 es) l ord).s.nx 0) m) (hm : m ≤ 1000) :
    Calls Try.prog 8 #[I al, .slice A n c, .slice PA nh pc, .slice OA on oc] w (RetTold w.heap.size (Tdl (Wend al nh (prog0 es) l ord) nh (fun v => (prog0 es v).length)) (lft (Wend al nh (prog0 es) l ord).s m ((Wend al nh (prog0 es) l ord).s.nx 0)) w) := by
  have HS := Lib.hid hS
  have HPN := Lib.hid hpn
  have HP := Lib.hid hP
  have HO := Lib.hid hO
  have HES := Lib.hid hes
  have HAL := Lib.hid hal
  have HLN := Lib.hid h.len
  obtain ⟨WE, hWE⟩ : ∃ WE, Wend al nh (prog0 es) l ord = WE := ⟨_, rfl⟩
  rw [hWE]
  have HWE := Lib.hid hWE
  obtain ⟨i0, hi, hz0, hz1, hz2⟩ := jinfo_parts int_info
  have HI := Lib.hid hi
  have HZ0 := Lib.hid hz0
  have HZ1 := Lib.hid hz1
  have HZ2 := Lib.hid hz2
  obtain ⟨i1, hi1, hz01, hz11, hz21⟩ := uinfo_parts bead_info
  have HI1 := Lib.hid hi1
  have HZ01 := Lib.hid hz01
  have HZ11 := Lib.hid hz11
  have HZ21 := Lib.hid hz21
  obtain ⟨i2, hi2, hz02, hz12, hz22⟩ := jinfo_parts done_info
  have HI2 := Lib.hid hi2
  have HZ02 := Lib.hid hz02
  have HZ12 := Lib.hid hz12
  have HZ22 := Lib.hid hz22
  have HU3 := Lib.hid (UB.laid w al nh (.slice PA nh pc) (by omega) l)
  have HT3 : Hid (TQk ((((w.alloc (.cells #[.slice none 0 0, .slice none 0 0] 26)).alloc (.cells (madeCells #[I 0, I 0, I 0, I 0, .bool false] (nh * 5)) 81)).alloc (.cells #[I (-1), I 1, .bool false, .bool false] 56)).alloc (.cells #[I al, .slice (some ⟨w.heap.size + 1 + 1, 0, none⟩) 1 1, .slice (some ⟨w.heap.size + 1, 0, none⟩) nh nh, .slice PA nh pc, I 0, .slice none 0 0] 59)) w.heap.size (.slice none 0 0) (.slice none 0 0)) := by
    show _ = _
    rw [Below.heap_alloc _ _ _ (by simp; omega), Below.heap_alloc _ _ _ (by simp; omega), Below.heap_alloc _ _ _ (by simp)]
    exact heap_alloc_new w _
  have HF3 : Hid (UF w.heap.size w ((((w.alloc (.cells #[.slice none 0 0, .slice none 0 0] 26)).alloc (.cells (madeCells #[I 0, I 0, I 0, I 0, .bool false] (nh * 5)) 81)).alloc (.cells #[I (-1), I 1, .bool false, .bool false] 56)).alloc (.cells #[I al, .slice (some ⟨w.heap.size + 1 + 1, 0, none⟩) 1 1, .slice (some ⟨w.heap.size + 1, 0, none⟩) nh nh, .slice PA nh pc, I 0, .slice none 0 0] 59))) :=
    ((((UF.refl _ _).alloc (Nat.le_refl _) _).alloc (by simp) _).alloc (by simp; omega) _).alloc (by simp; omega) _
  obtain ⟨w3, hw3⟩ : ∃ x, ((((w.alloc (.cells #[.slice none 0 0, .slice none 0 0] 26)).alloc (.cells (madeCells #[I 0, I 0, I 0, I 0, .bool false] (nh * 5)) 81)).alloc (.cells #[I (-1), I 1, .bool false, .bool false] 56)).alloc (.cells #[I al, .slice (some ⟨w.heap.size + 1 + 1, 0, none⟩) 1 1, .slice (some ⟨w.heap.size + 1, 0, none⟩) nh nh, .slice PA nh pc, I 0, .slice none 0 0] 59)) = x := ⟨_, rfl⟩
  rw [hw3] at HU3 HT3 HF3
  have HCL := Lib.hid (cloneI_any A n c l w3 (h.below (by rw [← hw3]; exact ((((Below.refl _ _).alloc (Nat.le_refl _) _).alloc (by simp) _).alloc (by simp; omega) _).alloc (by simp; omega) _)) (by have := h.len; omega))
  have hmk := fun W => run_makeS nh (by omega) W
  obtain ⟨q, hq⟩ : ∃ q, l.length = q := ⟨_, rfl⟩
  have HQ := Lib.hid hq
  have hq10 : q ≤ 10 := by omega
  obtain ⟨base, hbase⟩ : ∃ x, w.heap.size = x := ⟨_, rfl⟩
  have HBZ := Lib.hid hbase
  obtain ⟨bb, hbb⟩ : ∃ x, base + 1 + 1 + 1 = x := ⟨_, rfl⟩
  obtain ⟨gH, hgH⟩ : ∃ x, base + 1 = x := ⟨_, rfl⟩
  rw [hbase] at HU3 HT3 HF3
  rw [hbb, hgH] at HU3
  have HBB := Lib.hid hbb
  have HW3 := Lib.hid hw3
  clear hbase hbb hgH hw3
  clear hS h hP hO hes hpn hal hWE hi hz0 hz1 hz2 hi1 hz01 hz11 hz21 hi2 hz02 hz12 hz22 hq hl10
  go_enter Try.func8, Try.ntmps8
  go_wp2_with fail
  rw [HW3.out]
  try rw [HBZ.out]
  try rw [HBB.out]
  clear HW3 HBB hmk
  refine HCL.out.mono ?_
  rintro e w4 ⟨cv, rfl, hown4, hb4⟩
  have HOWN4 : Hid (w4.ownsRow w3.heap.size 3 1 cv q (l.map I)) := by rw [← HQ.out]; exact hown4
  have HB4 := Lib.hid hb4
  have hs34 := hb4.size
  clear hown4 hb4 HCL
  go_wp2_with (first
    | (at_builtin
       refine wpList_append_own_at _ rfl (.tmp 32) (.tmp 33) 22 rfl w3.heap.size 3 i0 _ 1 8 Try.underlying22 HI.out HZ0.out HZ1.out HZ2.out rfl (by omega) cv q (l.map I) rfl (own_below HOWN4.out ((Below.refl _ _).alloc (Nat.le_refl _) _)) ⟨w4.heap.size, 0, none⟩ 1 1 [I 10] rfl rfl (cell_one_new _ _ _) (one_I 10) (by unfold maxLen; omega) (by omega) (by simp; omega) ?_
       intro v5 w5 hown5 hgrow5 _ _
       have hb5 : Below w3.heap.size w3 w5 := ((HB4.out.alloc hs34 _)).grown hgrow5 (by simp; omega) (own_ge1 HOWN4.out)
       obtain ⟨lg, lc, rfl, hlC, hlK⟩ := own_ten HQ.out hown5
       have HLC := Lib.hid hlC
       have HLK := Lib.hid hlK
       have HB5 := Lib.hid hb5
       clear hown5 hgrow5 hb5 hlC hlK)
    | fail)
  have HU5 := Lib.hid (HU3.out.keep HB5.out)
  have HT5 : Hid (TQk w5 base (.slice none 0 0) (.slice none 0 0)) := (HB5.out.block _ (jblk HT3.out)).trans HT3.out
  have HF5 := Lib.hid (HF3.out.trans (UF.below HU3.out.bbase HB5.out))
  clear hs34 HOWN4 HB4 HU3 HT3 HF3
  go_loopw [36] (fun iv wr => ∃ k : Nat, k ≤ q + 1 ∧ iv = .int .i64 k ∧ ∃ gB cB, UB wr base bb gB cB gH nh al nh (stp l k) (fun _ => false) (fun _ => 0) (fun _ => hd0) (.slice PA nh pc) (.slice none 0 0) 0 [] ∧ UF base w5 wr) (fun iv _ => q + 1 - (intOf iv).toNat)
  case atStart => exact ⟨0, Nat.zero_le _, rfl, _, _, HU5.out, UF.refl _ _⟩
  case round =>
    obtain ⟨k, hk, rfl, gB, cB, hu, hf⟩ := hrel
    have HU := Lib.hid hu
    have HF := Lib.hid hf
    by_cases hlt : k < q + 1
    · obtain ⟨lC, hlC⟩ := HLC.out
      have hck : wr.cell? ⟨lg, k, none⟩ = some (I ((st0 l).key (k + 1))) := by rw [hf.cell hlC (by decide) (by decide) (by decide) (by decide)]; exact HLK.out k hlt
      obtain ⟨x, hx⟩ : ∃ x, (st0 l).key (k + 1) = x := ⟨_, rfl⟩
      rw [hx] at hck
      have HX := Lib.hid hx
      have b1 : wr.cell? ⟨bb, 1, none⟩ = some (.slice (some ⟨gB, 0, none⟩) (k + 1) cB) := hu.fb.2.1
      have hbz := hu.bbase
      have HNEW : Hid (∀ j u, [I x, I ((k : Int) + 2), .bool false, .bool false][j]? = some u → (wr.alloc (.cells #[I x, I ((k : Int) + 2), .bool false, .bool false] 56)).cell? ((⟨wr.heap.size, 0, none⟩ : Addr).add j) = some u) := fun j u hu => by
        have : (wr.alloc (.cells #[I x, I ((k : Int) + 2), .bool false, .bool false] 56)).cell? ⟨wr.heap.size, j, none⟩ = _ := World.cell?_alloc_mark wr #[I x, I ((k : Int) + 2), .bool false, .bool false] 56 (0, 0) j
        rw [show ((⟨wr.heap.size, 0, none⟩ : Addr).add j) = ⟨wr.heap.size, j, none⟩ by simp [Addr.add] <;> omega, this]
        simpa using hu
      have HOWNB : Hid ((wr.alloc (.cells #[I x, I ((k : Int) + 2), .bool false, .bool false] 56)).ownsRow base 56 4 (.slice (some ⟨gB, 0, none⟩) (k + 1) cB) (k + 1) (flatB (stp l k) (fun _ => false))) := own_below hu.beads ((Below.refl _ _).alloc (Nat.le_refl _) _)
      clear hlC hx hu hf
      go_wp2_with (first
        | (at_builtin
           refine wpList_append_lies _ rfl (.tmp 45) (.tmp 50) 57 rfl base 56 i1 _ 4 24 Try.underlying57 HI1.out HZ01.out HZ11.out HZ21.out rfl (by omega) (.slice (some ⟨gB, 0, none⟩) (k + 1) cB) (k + 1) (flatB (stp l k) (fun _ => false)) rfl HOWNB.out ⟨wr.heap.size, 0, none⟩ 1 1 [I x, I ((k : Int) + 2), .bool false, .bool false] rfl rfl HNEW.out (by intro u hu; simp at hu; rcases hu with rfl | rfl | rfl | rfl <;> rfl) (by omega) (by unfold maxLen; omega) (by omega) (by simp; omega) (wr.heap.size + 1) (by simp) ?_
           intro g6 cap6 w6 hown6 hgrow6 hat6 hlt6
           have h6 := HU.out.beaded (by have := HQ.out; omega) hgrow6 (by rw [HX.out]; exact hown6)
           have c16 : w6.cell? ⟨bb, 1, none⟩ = some (.slice (some ⟨gB, 0, none⟩) (k + 1) cB) := by rw [jcell h6.1]; rfl
           have f16 : w6.frozen? ⟨bb, 1, none⟩ = false := jfroz h6.1
           have HU6 := Lib.hid h6.2
           clear hown6 hgrow6 hat6 hlt6 h6)
        | fail)
      go_roundw
      case rel => exact ⟨k + 1, by omega, by go_num, g6, cap6, HU6.out.1, HF.out.trans HU6.out.2⟩
      case measure => simp [intOf]; omega
    · obtain ⟨z, hz⟩ : ∃ z, q + 1 = z := ⟨_, rfl⟩
      obtain rfl : k = z := by omega
      have HZQ : Hid (l.length + 1 = k) := by rw [HQ.out]; exact hz
      have b1 : wr.cell? ⟨bb, 1, none⟩ = some (.slice (some ⟨gB, 0, none⟩) (k + 1) cB) := hu.fb.2.1
      obtain ⟨-, x1, -, -, xf⟩ := hu.bd (i := k) (Nat.lt_succ_self k)
      have hz11 : k ≤ 11 := by omega
      have s7 := (HU.out.closed2 HZQ.out).fb.2.1
      rw [show (st0 l).sz = k + 1 by show l.length + 2 = _; have := HZQ.out; omega] at s7
      have S7 := Lib.hid s7
      clear s7
      have hk0 : (0 : Int) ≤ (k : Int) := by omega
      have hk1 : (k : Int) < (k : Int) + 1 := by omega
      have e1 : IntKind.i64.wrap (k : Int) = (k : Int) := IntWalk.i64_in _ (by omega)
      have e2 : IntKind.i64.wrap ((k : Int) + 1 - 1) = (k : Int) := by rw [show (k : Int) + 1 - 1 = k by omega]; exact e1
      clear hu hf hlt
      go_upto_region 7 with fail
      go_region_held3 (fun w' => w'.cell? ⟨bb, 1, none⟩ = some (.slice (some ⟨gB, 0, none⟩) (k + 1) cB))
        (first
          | exact b1
          | exact S7.out)
        (fail)
      all_goals
        (obtain ⟨w7, hw7⟩ : ∃ x, (wr.setCell ⟨gB, k * 4 + 1, none⟩ (I (-1))).drew = x := ⟨_, rfl⟩
         have HU7 : Hid (UB w7 base bb gB cB gH nh al nh (st0 l) (fun _ => false) (fun _ => 0) (fun _ => hd0) (.slice PA nh pc) (.slice none 0 0) 0 []) := by rw [← hw7]; exact (HU.out.closed2 HZQ.out).drew
         have HF7 : Hid (UF base w5 w7) := by rw [← hw7]; exact (HF.out.trans (HU.out.ufB _ _)).drew
         rw [hw7]
         have HT7 : Hid (TQk w7 base (.slice none 0 0) (.slice none 0 0)) := HF7.out.tqk HT5.out
         have hl10 : l.length ≤ 10 := by rw [HQ.out]; omega
         have HJ7 : Hid (UT al base bb gH nh nh (.slice PA nh pc) (prog0 es) (Wd.begin_ l) w w7) := ⟨⟨gB, cB, .slice none 0 0, [], HU7.out, DI.begin_, Nat.le_refl _⟩, PCI.begin_ hl10, fun v => Nat.zero_le _, HF5.out.trans HF7.out⟩
         clear hw7 HU7 HF7 HT5 HF5 HU HF HLC HLK HU5 HB5 b1 x1 xf hz hz11 hl10
         go_wp2
         go_loopw [69] (fun iv wr => ∃ k : Nat, k ≤ on ∧ iv = .int .i64 k ∧ UT al base bb gH nh nh (.slice PA nh pc) (prog0 es) ((Wd.begin_ l).runs (alg al) (dds (prog0 es)) (fun v => (prog0 es v).length) (ordN nh (ord.take k))) w wr ∧ TQk wr base (.slice none 0 0) (.slice none 0 0)) (fun iv _ => on - (intOf iv).toNat)
         case atStart => exact ⟨0, Nat.zero_le _, rfl, HJ7.out, HT7.out⟩
         case round =>
           obtain ⟨k, hk, rfl, hjr, htr⟩ := hrel
           have HJR := Lib.hid hjr
           have HTR := Lib.hid htr
           have hinv := HS.out.runs (ordN nh (ord.take k)) HS.out.i0 ordN_lt
           have hnow : ((Wd.begin_ l).runs (alg al) (dds (prog0 es)) (fun v => (prog0 es v).length) (ordN nh (ord.take k))).now ≤ k := by
             have h1 := (runs_now (A := alg al) (D := dds (prog0 es)) (len := fun v => (prog0 es v).length) (ordN nh (ord.take k)) (Wd.begin_ l)).2
             have h2 := ordN_len (nh := nh) (ord := ord.take k)
             have h3 : (ord.take k).length ≤ k := List.length_take_le _ _
             have h4 : (Wd.begin_ l).now = 0 := rfl
             omega
           obtain ⟨W, hW⟩ : ∃ W, (Wd.begin_ l).runs (alg al) (dds (prog0 es)) (fun v => (prog0 es v).length) (ordN nh (ord.take k)) = W := ⟨_, rfl⟩
           have HW := Lib.hid hW
           rw [hW] at HJR hinv hnow
           have HOK := Lib.hid (HS.out.ok hinv)
           have HNOW := Lib.hid hnow
           clear hjr htr hinv hW hnow
           by_cases hlt : k < on
           · obtain ⟨b, off, rfl, hb, hc⟩ := HO.out.at_ (by omega)
             have hkl : k < ord.length := by rw [HO.out.len]; exact hlt
             have hck : wr.cell? ⟨b, off + k, none⟩ = some (I ord[k]) := (HJR.out.uf.bl.cell (by show b < base; rw [← HBZ.out]; exact hb)).trans (hc k hlt)
             obtain ⟨x, hx⟩ : ∃ x, ord[k] = x := ⟨_, rfl⟩
             rw [hx] at hck
             have HBT := Lib.hid (fun wq => jbetween_any x 0 ((nh : Int) - 1) wq rfl)
             by_cases hin : 0 ≤ x ∧ x < (nh : Int)
             · obtain ⟨v, rfl⟩ : ∃ v : Nat, x = v := ⟨x.toNat, by omega⟩
               have hv : v < nh := by omega
               have HN := Lib.hid (ordN_yes hkl hx hv)
               have HG := Lib.hid (ustep_any HAL.out HJR.out HBZ.out.symm HP.out HES.out HOK.out hv (by have := HNOW.out; omega) rfl)
               have e1 : (decide (0 ≤ (v : Int)) && decide ((v : Int) ≤ (nh : Int) - 1)) = true := by simp; omega
               rw [e1] at HBT
               clear hc hx hin e1
               go_wp2_with fail
               refine (HBT.out wr).mono ?_
               rintro e w8 ⟨rfl, rfl⟩
               go_wp2_with fail
               refine HG.out.mono ?_
               rintro e w9 ⟨rfl, hj9, hf9⟩
               have hj3 : UT al base bb gH nh nh (.slice PA nh pc) (prog0 es) ((Wd.begin_ l).runs (alg al) (dds (prog0 es)) (fun v => (prog0 es v).length) (ordN nh (ord.take (k + 1)))) w w9 := by
                 rw [HN.out, runs_snoc, HW.out]
                 exact hj9
               have HJ3 := Lib.hid hj3
               have HT3 := Lib.hid (hf9.tqk HTR.out)
               clear hj9 hf9 hj3
               go_wp2
               go_roundw
               case rel => exact ⟨k + 1, by omega, by go_num, HJ3.out, HT3.out⟩
               case measure => simp [intOf]; omega
             · have HN := Lib.hid (ordN_no (nh := nh) hkl (by rw [hx]; exact hin))
               have hj3 : UT al base bb gH nh nh (.slice PA nh pc) (prog0 es) ((Wd.begin_ l).runs (alg al) (dds (prog0 es)) (fun v => (prog0 es v).length) (ordN nh (ord.take (k + 1)))) w wr := by
                 rw [HN.out, HW.out]
                 exact HJR.out
               have HJ3 := Lib.hid hj3
               have e1 : (decide (0 ≤ x) && decide (x ≤ (nh : Int) - 1)) = false := by simp; omega
               rw [e1] at HBT
               clear hc hx hj3 hin e1
               go_wp2_with fail
               refine (HBT.out wr).mono ?_
               rintro e w8 ⟨rfl, rfl⟩
               go_wp2
               go_roundw
               case rel => exact ⟨k + 1, by omega, by go_num, HJ3.out, HTR.out⟩
               case measure => simp [intOf]; omega
           · obtain rfl : on = k := by omega
             have hfull : ord.take on = ord := List.take_of_length_le (by rw [HO.out.len]; exact Nat.le_refl _)
             rw [hfull] at HW
             have HINV := Lib.hid (HS.out.runs (ordN nh ord) HS.out.i0 ordN_lt)
             rw [HW.out] at HINV
             clear hfull
             go_wp2
             go_loopw [14] (fun ag wr => ∃ (b : Bool) (k : Nat), ag = .bool b ∧ k ≤ 875 ∧ UT al base bb gH nh nh (.slice PA nh pc) (prog0 es) (W.rounds (alg al) (dds (prog0 es)) (fun v => (prog0 es v).length) nh k) w wr ∧ TQk wr base (.slice none 0 0) (.slice none 0 0) ∧ (b = false → ∀ v, v < nh → ¬ (W.rounds (alg al) (dds (prog0 es)) (fun v => (prog0 es v).length) nh k).ix v < (prog0 es v).length)) (fun ag wr => match ag with | .bool true => 4001 - nowB wr bb | _ => 0)
             case atStart => exact ⟨true, 0, rfl, Nat.zero_le _, HJR.out, HTR.out, fun h => by cases h⟩
             case round =>
               obtain ⟨b, k, rfl, hk, hjr, htr, hover⟩ := hrel
               have HJK := Lib.hid hjr
               have HTK := Lib.hid htr
               have HOVER := Lib.hid hover
               have hinvk := HS.out.rounds HINV.out k
               have hnowk := HS.out.nows k hk
               rw [HW.out] at hnowk
               have hfin := HS.out.fin
               rw [HW.out] at hfin
               have HSTOP : Hid (∀ j, j ≤ 875 → (∀ v, v < nh → ¬ (W.rounds (alg al) (dds (prog0 es)) (fun v => (prog0 es v).length) nh j).ix v < (prog0 es v).length) → W.rounds (alg al) (dds (prog0 es)) (fun v => (prog0 es v).length) nh j = WE) := fun j hj h => by
                 rw [← HWE.out]
                 unfold Wend
                 rw [HW.out]
                 exact (rounds_stop hj h).symm
               have HSUCC : Hid (W.rounds (alg al) (dds (prog0 es)) (fun v => (prog0 es v).length) nh (k + 1) = (W.rounds (alg al) (dds (prog0 es)) (fun v => (prog0 es v).length) nh k).runs (alg al) (dds (prog0 es)) (fun v => (prog0 es v).length) (List.range nh)) := rfl
               obtain ⟨Wk, hWk⟩ : ∃ Wk, W.rounds (alg al) (dds (prog0 es)) (fun v => (prog0 es v).length) nh k = Wk := ⟨_, rfl⟩
               have HWK := Lib.hid hWk
               have HFIN : Hid (k = 875 → ∀ v, v < nh → ¬ Wk.ix v < (prog0 es v).length) := fun e v hv => by subst e; rw [← hWk]; exact hfin v hv
               rw [hWk] at HJK HOVER hinvk hnowk HSUCC
               have HINVK := Lib.hid hinvk
               have HNOWK := Lib.hid hnowk
               clear hjr htr hover hinvk hnowk hfin hWk
               cases b with
               | false =>
                 have hover := HOVER.out rfl
                 have hwe : Wk = WE := by rw [← HWK.out]; exact HSTOP.out k hk (by rw [HWK.out]; exact hover)
                 subst hwe
                 have HLF := Lib.hid (HS.out.lf HINVK.out)
                 have hixe : ∀ v, v < nh → Wk.ix v = (prog0 es v).length := fun v hv => by have h1 := hover v hv; have h2 := HJK.out.le v; omega
                 have HIXE := Lib.hid hixe
                 have HL4 := Lib.hid (prog_le HP.out HES.out)
                 obtain ⟨gB, cB, dv, L, hu, hd, hl⟩ := HJK.out.ub
                 obtain ⟨dA, dc, rfl, hdr⟩ := hu.done.dr
                 obtain ⟨dn, hdn⟩ : ∃ dn, L.length = dn := ⟨_, rfl⟩
                 rw [hdn] at hu hdr hl
                 have hdn4 : dn ≤ 4000 := by have := HNOWK.out; omega
                 have HDN := Lib.hid hdn
                 have HDR := Lib.hid hdr
                 have HUS := Lib.hid hu
                 have HDI := Lib.hid hd
                 have HBS := Lib.hid HJK.out.uf.bl
                 clear hover hixe hu hd hl hdr hdn HSTOP HSUCC HFIN HINVK HNOWK HOVER HINV HJ7 HT7 HWK HW
                 obtain ⟨wS, hwS⟩ : ∃ wS, wS = wr := ⟨_, rfl⟩
                 subst hwS
                 obtain ⟨z, hz⟩ : ∃ z, wS.heap.size = z := ⟨_, rfl⟩
                 have HZS := Lib.hid hz
                 have hbz : base ≤ z := by rw [← hz]; exact HUS.out.bbase
                 have hbbz : bb < z := by rw [← hz]; exact jblk HUS.out.box
                 have HTQ0 : Hid (TQk (wS.alloc (.cells #[.slice none 0 0, .slice none 0 0] 26)) z (.slice none 0 0) (.slice none 0 0)) := by rw [← hz]; exact heap_alloc_new wS _
                 clear hz
                 go_wp2
                 try rw [HZS.out]
                 go_loopw [102] (fun iv wr => ∃ i : Nat, i ≤ nh ∧ iv = .int .i64 i ∧ ∃ dvo, TQk wr z dvo (.slice none 0 0) ∧ OwnD wr z dvo (Tdl Wk i (fun v => (prog0 es v).length)) ∧ Below z wS wr) (fun iv _ => nh - (intOf iv).toNat)
                 case atStart => exact ⟨0, Nat.zero_le _, rfl, .slice none 0 0, HTQ0.out, OwnD.nil _ _, (Below.refl _ _).alloc (by rw [HZS.out]; exact Nat.le_refl _) _⟩
                 case round =>
                   obtain ⟨i, hi, rfl, dvo, htq, hown, hbl⟩ := hrel
                   have HTQ := Lib.hid htq
                   have HOWN := Lib.hid hown
                   have HBL := Lib.hid hbl
                   clear htq hown hbl
                   by_cases hlt : i < nh
                   · obtain ⟨pb, poff, rfl, hpb, hpc⟩ := HP.out.at_ (by omega)
                     have hil : i < es.length := by rw [HP.out.len]; exact hlt
                     have hpk := hpc i hlt
                     have hps := HP.out.each es[i] (List.getElem_mem hil)
                     have hPi : prog0 es i = es[i].L := by unfold prog0; rw [List.getElem?_eq_getElem hil]; rfl
                     obtain ⟨⟨sA, sn, sc, sL⟩, hs⟩ : ∃ s, es[i] = s := ⟨_, rfl⟩
                     rw [hs] at hpk hPi hps
                     have hsl : sL.length = sn := PS.len hps
                     have HSN : Hid ((prog0 es i).length = sn) := by rw [hPi]; exact hsl
                     have hsn4 : sn ≤ 4 := by rw [← HSN.out]; exact HL4.out i
                     have cp : wr.cell? ⟨pb, poff + i, none⟩ = some (.slice sA sn sc) := (HBL.out.cell (by show pb < z; have := HBZ.out; omega)).trans ((HBS.out.cell (by show pb < base; have := HBZ.out; omega)).trans hpk)
                     clear hil hpk hps hPi hs hsl hpc hpb
                     go_wp2
                     go_loopw [110] (fun jv wr => ∃ j : Nat, j ≤ sn ∧ jv = .int .i64 j ∧ ∃ dvo, TQk wr z dvo (.slice none 0 0) ∧ OwnD wr z dvo (Tpt Wk (fun v => (prog0 es v).length) i j) ∧ Below z wS wr) (fun jv _ => sn - (intOf jv).toNat)
                     case atStart => exact ⟨0, Nat.zero_le _, rfl, dvo, HTQ.out, by rw [Tpt_0]; exact HOWN.out, HBL.out⟩
                     case round =>
                       clear cp
                       obtain ⟨j, hj, rfl, dvo2, htq2, hown2, hbl2⟩ := hrel
                       have HTQ2 := Lib.hid htq2
                       have HOWN2 := Lib.hid hown2
                       have HBL2 := Lib.hid hbl2
                       clear htq2 hown2 hbl2
                       by_cases hjl : j < sn
                       · have f5 : wr.cell? ⟨bb, 5, none⟩ = some (.slice dA dn dc) := (HBL2.out.cell (by show bb < z; exact hbbz)).trans HUS.out.fb.2.2.2.2.2.1
                         go_wp2
                         go_loopw [118] (fun kv wr => ∃ k : Nat, k ≤ dn ∧ kv = .int .i64 k ∧ ∃ dvo, TQk wr z dvo (.slice none 0 0) ∧ OwnD wr z dvo (Tpt Wk (fun v => (prog0 es v).length) i j ++ (L.take k).filter (isV i j)) ∧ Below z wS wr) (fun kv _ => dn - (intOf kv).toNat)
                         case atStart => exact ⟨0, Nat.zero_le _, rfl, dvo2, HTQ2.out, by simpa using HOWN2.out, HBL2.out⟩
                         case round =>
                           clear f5
                           obtain ⟨k, hk, rfl, dvo3, htq3, hown3, hbl3⟩ := hrel
                           have HTQ3 := Lib.hid htq3
                           have HOWN3 := Lib.hid hown3
                           have HBL3 := Lib.hid hbl3
                           by_cases hkl : k < dn
                           · obtain ⟨g, rfl, hg, hc⟩ := HDR.out.at_ (by omega)
                             have hkL : k < L.length := by rw [HDN.out]; exact hkl
                             have hDk := hc k hkL
                             have hTK := ftake_succ (p := isV i j) hkL
                             obtain ⟨⟨dw, dj, db, de, di⟩, hdk⟩ : ∃ d, L[k] = d := ⟨_, rfl⟩
                             rw [hdk] at hDk hTK
                             have hgz : g < z := by rw [← HZS.out]; exact hg
                             have D0 : wr.cell? ⟨g, k * 5, none⟩ = some (I dw) := (hbl3.cell (p := ⟨g, k * 5, none⟩) hgz).trans (hDk 0 (by omega))
                             have D1 : wr.cell? ⟨g, k * 5 + 1, none⟩ = some (I dj) := (hbl3.cell (p := ⟨g, k * 5 + 1, none⟩) hgz).trans (hDk 1 (by omega))
                             have D2 : wr.cell? ⟨g, k * 5 + 2, none⟩ = some (I db) := (hbl3.cell (p := ⟨g, k * 5 + 2, none⟩) hgz).trans (hDk 2 (by omega))
                             have D3 : wr.cell? ⟨g, k * 5 + 3, none⟩ = some (I de) := (hbl3.cell (p := ⟨g, k * 5 + 3, none⟩) hgz).trans (hDk 3 (by omega))
                             have D4 : wr.cell? ⟨g, k * 5 + 4, none⟩ = some (.bool di) := (hbl3.cell (p := ⟨g, k * 5 + 4, none⟩) hgz).trans (hDk 4 (by omega))
                             have HTKS := Lib.hid hTK
                             have HZR : Hid (z ≤ wr.heap.size) := by have := hbl3.size; have := HZS.out; show _ ≤ _; omega
                             have HTA : Hid (TQk (wr.alloc (.cells #[I dw, I dj, I db, I de, .bool di] 37)) z dvo3 (.slice none 0 0)) := (Below.heap_alloc _ _ _ (jblk htq3)).trans htq3
                             have HOA : Hid (OwnD (wr.alloc (.cells #[I dw, I dj, I db, I de, .bool di] 37)) z dvo3 (Tpt Wk (fun v => (prog0 es v).length) i j ++ (L.take k).filter (isV i j))) := hown3.below ((Below.refl _ _).alloc (Nat.le_refl _) _)
                             have HBA : Hid (Below z wS (wr.alloc (.cells #[I dw, I dj, I db, I de, .bool di] 37))) := hbl3.alloc HZR.out _
                             clear hDk hdk hTK htq3 hown3 hbl3 hc hg hkL hgz
                             by_cases e1 : dw = i
                             · have q1 : ((dw : Int) == (i : Int)) = true := by simp [e1]
                               by_cases e2 : dj = j
                               · have q2 : ((dj : Int) == (j : Int)) = true := by simp [e2]
                                 have HIV : Hid (isV i j ⟨dw, dj, db, de, di⟩ = true) := by show _ = _; simp [isV, e1, e2]
                                 obtain ⟨q, hq⟩ : ∃ q, (Tpt Wk (fun v => (prog0 es v).length) i j ++ (L.take k).filter (isV i j)).length = q := ⟨_, rfl⟩
                                 have hq5 : q ≤ 10000 := by
                                   have h1 := tdl_le Wk (len := fun v => (prog0 es v).length) HL4.out i
                                   have h2 := ftake_le (p := isV i j) (D := L) k
                                   have h3 := HDN.out
                                   rw [← hq, List.length_append]
                                   unfold Tpt
                                   rw [List.length_append, List.length_map, List.length_range]
                                   omega
                                 have HQL := Lib.hid hq
                                 have HOA2 : Hid (((wr.alloc (.cells #[I dw, I dj, I db, I de, .bool di] 37)).alloc (.cells #[I dw, I dj, I db, I de, .bool di] 37)).ownsRow z 37 5 dvo3 q (flatD (Tpt Wk (fun v => (prog0 es v).length) i j ++ (L.take k).filter (isV i j)))) := by
                                   have := HOA.out.below ((Below.refl _ _).alloc (Nat.le_refl _) (.cells #[I dw, I dj, I db, I de, .bool di] 37))
                                   unfold OwnD at this
                                   rw [hq] at this
                                   exact this
                                 have HNEW : Hid (∀ x u, [I (dw : Int), I (dj : Int), I db, I de, .bool di][x]? = some u → ((wr.alloc (.cells #[I dw, I dj, I db, I de, .bool di] 37)).alloc (.cells #[I dw, I dj, I db, I de, .bool di] 37)).cell? ((⟨wr.heap.size + 1, 0, none⟩ : Addr).add x) = some u) := fun x u hu => by
                                   have := World.cell?_alloc_mark (wr.alloc (.cells #[I dw, I dj, I db, I de, .bool di] 37)) #[I dw, I dj, I db, I de, .bool di] 37 (0, 0) x
                                   rw [World.size_alloc] at this
                                   rw [show ((⟨wr.heap.size + 1, 0, none⟩ : Addr).add x) = ⟨wr.heap.size + 1, x, none⟩ by simp [Addr.add] <;> omega, this]
                                   simpa using hu
                                 have z0 : ∀ o o2, ((wr.alloc o).alloc o2).cell? ⟨z, 0, none⟩ = some dvo3 := fun o o2 => by
                                   have h0 : wr.heap[z]? = some (.cells #[dvo3, .slice none 0 0] 26 (0, 0)) := HTQ3.out
                                   have h1 : z < wr.heap.size := jblk h0
                                   have h2 : z < (wr.alloc o).heap.size := by rw [World.size_alloc]; omega
                                   rw [World.cell?_of_block (Below.heap_alloc (wr.alloc o) o2 z h2), World.cell?_of_block (Below.heap_alloc wr o z h1), jcell h0]
                                   rfl
                                 have z0' : ∀ o, (wr.alloc o).cell? ⟨z, 0, none⟩ = some dvo3 := fun o => by
                                   have h0 : wr.heap[z]? = some (.cells #[dvo3, .slice none 0 0] 26 (0, 0)) := HTQ3.out
                                   rw [World.cell?_of_block (Below.heap_alloc wr o z (jblk h0)), jcell h0]
                                   rfl
                                 clear hq e1 e2
                                 go_wp2_with (first
                                   | (at_builtin
                                      refine wpList_append_lies _ rfl (.tmp 133) (.tmp 135) 24 rfl z 37 i2 _ 5 40 Try.underlying24 HI2.out HZ02.out HZ12.out HZ22.out rfl (by omega) dvo3 q (flatD (Tpt Wk (fun v => (prog0 es v).length) i j ++ (L.take k).filter (isV i j))) rfl HOA2.out ⟨wr.heap.size + 1, 0, none⟩ 1 1 [I (dw : Int), I (dj : Int), I db, I de, .bool di] rfl rfl HNEW.out (by intro u hu; simp at hu; rcases hu with rfl | rfl | rfl | rfl | rfl <;> rfl) (by omega) (by unfold maxLen; omega) (by omega) (by have := HZR.out; simp; omega) (wr.heap.size + 1 + 1) (by simp) ?_
                                      intro g9 cap9 w9 hown9 hgrow9 hat9 hlt9
                                      have h9 := told_on (d := ⟨dw, dj, db, de, di⟩) HQL.out HTA.out HOA.out HBA.out hgrow9 hown9
                                      have c9 : w9.cell? ⟨z, 0, none⟩ = some dvo3 := by rw [jcell h9.1]; rfl
                                      have f9 : w9.frozen? ⟨z, 0, none⟩ = false := jfroz h9.1
                                      have H9 := Lib.hid h9.2
                                      clear hown9 hgrow9 hat9 hlt9 h9)
                                   | fail)
                                 go_roundw
                                 case rel =>
                                   refine ⟨k + 1, by omega, by go_num, _, H9.out.1, ?_, H9.out.2.2⟩
                                   rw [HTKS.out, HIV.out, if_pos rfl, ← List.append_assoc]
                                   exact H9.out.2.1
                                 case measure => simp [intOf]; omega
                               · have q2 : ((dj : Int) == (j : Int)) = false := by simp; omega
                                 have HIV : Hid (isV i j ⟨dw, dj, db, de, di⟩ = false) := by show _ = _; simp [isV, e2]
                                 clear e1 e2
                                 go_wp2
                                 go_roundw
                                 case rel =>
                                   refine ⟨k + 1, by omega, by go_num, dvo3, HTA.out, ?_, HBA.out⟩
                                   rw [HTKS.out, HIV.out, if_neg (by decide), List.append_nil]
                                   exact HOA.out
                                 case measure => simp [intOf]; omega
                             · have q1 : ((dw : Int) == (i : Int)) = false := by simp; omega
                               have HIV : Hid (isV i j ⟨dw, dj, db, de, di⟩ = false) := by show _ = _; simp [isV, e1]
                               clear e1
                               go_wp2
                               go_roundw
                               case rel =>
                                 refine ⟨k + 1, by omega, by go_num, dvo3, HTA.out, ?_, HBA.out⟩
                                 rw [HTKS.out, HIV.out, if_neg (by decide), List.append_nil]
                                 exact HOA.out
                               case measure => simp [intOf]; omega
                           · obtain rfl : dn = k := by omega
                             have HO4 : Hid (OwnD wr z dvo3 (Tpt Wk (fun v => (prog0 es v).length) i (j + 1))) := by
                               have h1 := hown3
                               rw [← HDN.out, ftake_all, HDI.out.one (by rw [HIXE.out i hlt, HSN.out]; exact hjl), ← Tpt_succ] at h1
                               exact h1
                             clear htq3 hown3 hbl3
                             go_wp2
                             go_roundw
                             case rel => exact ⟨j + 1, by omega, by go_num, dvo3, HTQ3.out, HO4.out, HBL3.out⟩
                             case measure => simp [intOf]; omega
                       · obtain rfl : sn = j := by omega
                         have HO4 : Hid (OwnD wr z dvo2 (Tdl Wk (i + 1) (fun v => (prog0 es v).length))) := by
                           have h1 := Tpt_next Wk (fun v => (prog0 es v).length) i
                           simp only [HSN.out] at h1
                           show OwnD _ _ _ _
                           rw [← h1]
                           exact HOWN2.out
                         go_wp2
                         go_roundw
                         case rel => exact ⟨i + 1, by omega, by go_num, dvo2, HTQ2.out, HO4.out, HBL2.out⟩
                         case measure => simp [intOf]; omega
                   · obtain rfl : nh = i := by omega
                     obtain ⟨D, hD⟩ : ∃ D, Tdl Wk nh (fun v => (prog0 es v).length) = D := ⟨_, rfl⟩
                     rw [hD] at HOWN
                     have HDD := Lib.hid hD
                     obtain ⟨dAo, dco, rfl, -⟩ := HOWN.out.is_
                     have b1 : wr.cell? ⟨bb, 1, none⟩ = some (.slice (some ⟨gB, 0, none⟩) Wk.s.sz cB) := (HBL.out.cell (by show bb < z; exact hbbz)).trans HUS.out.fb.2.1
                     obtain ⟨_, hgB, hgB2⟩ := HUS.out.bblk
                     have hgBz : gB < z := by rw [← HZS.out]; exact jblk hgB
                     have x1 : wr.cell? ⟨gB, 1, none⟩ = some (I (Wk.s.nx 0)) := by
                       have h1 := (HUS.out.bd HLF.out.h0).2.1
                       rw [nxI_ne HLF.out.h0t] at h1
                       exact (HBL.out.cell (p := ⟨gB, 1, none⟩) hgBz).trans (by simpa using h1)
                     have HNX0 : Hid (Wk.s.nx 0 < Wk.s.sz) := HLF.out.hnl 0 HLF.out.h0 HLF.out.h0t
                     have hsz0 : (0 : Int) < (Wk.s.sz : Int) := by have := HLF.out.h0; omega
                     have HPW : Hid (Pn Wk.s.nx Wk.s.tl (Wk.s.nx 0) m) := by rw [← HWE.out]; exact HPN.out
                     obtain ⟨sz, hsz⟩ : ∃ sz, Wk.s.sz = sz := ⟨_, rfl⟩
                     have HSZ := Lib.hid hsz
                     rw [hsz] at b1 hsz0
                     obtain ⟨n0, hn0⟩ : ∃ n0, Wk.s.nx 0 = n0 := ⟨_, rfl⟩
                     rw [hn0] at x1
                     have HN0 := Lib.hid hn0
                     clear hD hgB hgB2 hsz hn0
                     go_wp2
                     go_loopg [21] m (fun gk av wr => ∃ (c : Nat) (K : List Int) (lvo : Value), av = I c ∧ c < Wk.s.sz ∧ Pn Wk.s.nx Wk.s.tl c gk ∧ K.length + gk ≤ m ∧ K ++ lft Wk.s gk c = lft Wk.s m (Wk.s.nx 0) ∧ TQk wr z (.slice dAo D.length dco) lvo ∧ OwnI wr z lvo K ∧ OwnD wr z (.slice dAo D.length dco) D ∧ Below z wS wr)
                     case atStart => exact ⟨n0, [], .slice none 0 0, rfl, by rw [← HN0.out]; exact HNX0.out, by rw [← HN0.out]; exact HPW.out, by simp, by rw [HN0.out]; rfl, HTQ.out, ⟨rfl, .inl ⟨rfl, rfl⟩⟩, HOWN.out, HBL.out⟩
                     case round =>
                       clear b1 x1
                       obtain ⟨c, K, lvo, rfl, hc, hpc, hKm, hKe, htq, hownI, hownD, hbl⟩ := hrel
                       have HTQ8 : Hid (wr.heap[z]? = some (.cells #[.slice dAo D.length dco, lvo] 26 (0, 0))) := htq
                       have HOI8 := Lib.hid hownI
                       have HOD8 := Lib.hid hownD
                       have HBL8 := Lib.hid hbl
                       have HKE := Lib.hid hKe
                       have HZR8 : Hid (z < wr.heap.size) := jblk htq
                       have b1 : wr.cell? ⟨bb, 1, none⟩ = some (.slice (some ⟨gB, 0, none⟩) sz cB) := by
                         have h1 := HUS.out.fb.2.1
                         rw [HSZ.out] at h1
                         exact (hbl.cell (by show bb < z; exact hbbz)).trans h1
                       obtain ⟨y0, y1, y2, -, -⟩ := HUS.out.bd hc
                       have x0 : wr.cell? ⟨gB, c * 4, none⟩ = some (I (Wk.s.key c)) := (hbl.cell (by show gB < z; exact hgBz)).trans y0
                       have x1 : wr.cell? ⟨gB, c * 4 + 1, none⟩ = some (I (nxI Wk.s c)) := (hbl.cell (by show gB < z; exact hgBz)).trans y1
                       have x2 : wr.cell? ⟨gB, c * 4 + 2, none⟩ = some (.bool (Wk.s.mrk c)) := (hbl.cell (by show gB < z; exact hgBz)).trans y2
                       have hcz : (c : Int) < (sz : Int) := by have := HSZ.out; omega
                       have hc0 : (0 : Int) ≤ (c : Int) := by omega
                       by_cases e : c = Wk.s.tl
                       · have hn1 : nxI Wk.s c = -1 := by unfold nxI; rw [if_pos e]
                         rw [hn1] at x1
                         have hg0 : gk = 0 := by
                           cases hpc with
                           | last => rfl
                           | step a _ => exact absurd e a
                         subst hg0
                         have HKE2 : Hid (lft Wk.s m (Wk.s.nx 0) = K) := by have := HKE.out; rw [show lft Wk.s 0 c = [] from rfl, List.append_nil] at this; exact this.symm
                         obtain ⟨lA, lc, rfl, -, -⟩ := hownI.is_
                         have hbw : base < wS.heap.size := jblk HTK.out
                         have hbz2 : base < z := by rw [← HZS.out]; exact hbw
                         have HTB : Hid (wr.heap[base]? = some (.cells #[.slice none 0 0, .slice none 0 0] 26 (0, 0))) := (hbl.block base hbz2).trans HTK.out
                         have r0 : wr.cell? ⟨base, 0, none⟩ = some (.slice none 0 0) := by rw [jcell HTB.out]; rfl
                         have r1 : wr.cell? ⟨base, 1, none⟩ = some (.slice none 0 0) := by rw [jcell HTB.out]; rfl
                         have f0 := jfroz (i := 0) HTB.out
                         have f1 := jfroz (i := 1) HTB.out
                         obtain ⟨dl, hdl⟩ : ∃ dl, D.length = dl := ⟨_, rfl⟩
                         obtain ⟨kl, hkl⟩ : ∃ kl, K.length = kl := ⟨_, rfl⟩
                         have t0 : wr.cell? ⟨z, 0, none⟩ = some (.slice dAo dl dco) := by rw [← hdl, jcell HTQ8.out]; rfl
                         have t1 : wr.cell? ⟨z, 1, none⟩ = some (.slice lA kl lc) := by rw [← hkl, jcell HTQ8.out]; rfl
                         rw [hdl] at HOD8
                         rw [hkl] at HOI8
                         clear e hn1 hpc hKm hKe htq hownI hownD hbl y0 y1 y2 x0 x2 hc hdl hkl
                         go_wp2
                         have hfin := jset_at (i := 1) (v := .slice lA kl lc) (jset_at (i := 0) (v := .slice dAo dl dco) HTB.out)
                         have q0 : ((wr.setCell ⟨base, 0, none⟩ (.slice dAo dl dco)).setCell ⟨base, 1, none⟩ (.slice lA kl lc)).cell? ⟨base, 0, none⟩ = some (.slice dAo dl dco) := by rw [jcell hfin]; rfl
                         have q1 : ((wr.setCell ⟨base, 0, none⟩ (.slice dAo dl dco)).setCell ⟨base, 1, none⟩ (.slice lA kl lc)).cell? ⟨base, 1, none⟩ = some (.slice lA kl lc) := by rw [jcell hfin]; rfl
                         clear hfin
                         refine bodyPost_ret (v := .agg #[.slice dAo dl dco, .slice lA kl lc]) (by simp [results, Try.results8, go_sem, q0, q1]) rfl ?_
                         rw [HBZ.out, HDD.out, HKE2.out]
                         have hkeep : ∀ g, z ≤ g → ((wr.setCell ⟨base, 0, none⟩ (.slice dAo dl dco)).setCell ⟨base, 1, none⟩ (.slice lA kl lc)).heap[g]? = wr.heap[g]? := fun g hg => by
                           have hne : g ≠ base := by omega
                           rw [Below.heap_setCell _ _ _ _ hne, Below.heap_setCell _ _ _ _ hne]
                         refine ⟨_, _, rfl, urow_keep (own_mono1 HOD8.out hbz) fun g hg => hkeep g (own_ge1 HOD8.out g hg), urow_keep (own_mono1 HOI8.out hbz) fun g hg => hkeep g (own_ge1 HOI8.out g hg), ((HBS.out.trans (HBL8.out.mono hbz)).setCell (p := ⟨base, 0, none⟩) (Nat.le_refl _) _).setCell (p := ⟨base, 1, none⟩) (Nat.le_refl _) _⟩
                       · have hn1 : nxI Wk.s c = (Wk.s.nx c : Int) := nxI_ne e
                         rw [hn1] at x1
                         obtain ⟨m', hm', hpc'⟩ : ∃ m', gk = m' + 1 ∧ Pn Wk.s.nx Wk.s.tl (Wk.s.nx c) m' := by
                           cases hpc with
                           | last => exact absurd rfl e
                           | step _ h => exact ⟨_, rfl, h⟩
                         subst hm'
                         have HPC := Lib.hid hpc'
                         have HNC : Hid (Wk.s.nx c < Wk.s.sz) := HLF.out.hnl c hc e
                         obtain ⟨x, hx⟩ : ∃ x, Wk.s.key c = x := ⟨_, rfl⟩
                         obtain ⟨nc, hnc⟩ : ∃ nc, Wk.s.nx c = nc := ⟨_, rfl⟩
                         rw [hx] at x0
                         rw [hnc] at x1
                         have HX := Lib.hid hx
                         have HNN := Lib.hid hnc
                         have hnc0 : (0 : Int) ≤ (nc : Int) := by omega
                         cases hmk : Wk.s.mrk c with
                         | true =>
                           rw [hmk] at x2
                           have HMK := Lib.hid hmk
                           clear e hn1 hpc hpc' htq hownI hownD hbl y0 y1 y2 x0 hx hnc hmk hKe hc
                           go_wp2
                           go_roundg m'
                           case measure => omega
                           case rel => exact ⟨nc, K, lvo, rfl, by rw [← HNN.out]; exact HNC.out, by rw [← HNN.out]; exact HPC.out, by omega, by rw [← HKE.out, lft_cons_t HMK.out, HNN.out], HTQ8.out, HOI8.out, HOD8.out, HBL8.out⟩
                         | false =>
                           rw [hmk] at x2
                           have HMK := Lib.hid hmk
                           obtain ⟨kl, hkl⟩ : ∃ kl, K.length = kl := ⟨_, rfl⟩
                           have HKL := Lib.hid hkl
                           obtain ⟨lA, lc, hlv, -, -⟩ := hownI.is_
                           rw [hkl] at hlv
                           subst hlv
                           have HOI9 : Hid ((wr.drew.alloc (.cells #[I x] 3)).ownsRow z 3 1 (.slice lA kl lc) kl (K.map I)) := by
                             have h1 : wr.drew.ownsRow z 3 1 (.slice lA kl lc) K.length (K.map I) := hownI
                             rw [hkl] at h1
                             exact own_below h1 ((Below.refl _ _).alloc (Nat.le_refl _) _)
                           have z1 : wr.cell? ⟨z, 1, none⟩ = some (.slice lA kl lc) := by rw [jcell HTQ8.out]; rfl
                           have z1a : ∀ o, (wr.alloc o).cell? ⟨z, 1, none⟩ = some (.slice lA kl lc) := fun o => (World.cell?_of_block (Below.heap_alloc wr o z HZR8.out)).trans z1
                           have hkl1 : kl ≤ 1000 := by omega
                           clear e hn1 hpc hpc' htq hownI hownD hbl y0 y1 y2 hx hnc hmk hKe hc hkl
                           go_upto_region 42 with fail
                           go_region_law
                             (refine step_append_lies _ rfl (.tmp 175) (.tmp 184) 22 rfl z 3 i0 _ 1 8 Try.underlying22 HI.out HZ0.out HZ1.out HZ2.out rfl (by omega) (.slice lA kl lc) kl (K.map I) (by simp [Act.eval, Act.put]) HOI9.out ⟨wr.heap.size, 0, none⟩ 1 1 [I x] (by simp [Act.eval, Act.put]) rfl (cell_one_new _ _ _) (one_I x) (by omega) (by unfold maxLen; omega) (by omega) (by have := HZR8.out; simp; omega) (wr.heap.size + 1) (by simp) ?_
                              intro g9 cap9 w9 hown9 hgrow9 hat9 hlt9
                              have h9 := left_on HKL.out HTQ8.out HOD8.out HOI8.out HBL8.out hgrow9 hown9
                              have c9 : w9.cell? ⟨z, 1, none⟩ = some (.slice lA kl lc) := by rw [jcell (show w9.heap[z]? = some (.cells #[.slice dAo D.length dco, .slice lA kl lc] 26 (0, 0)) from h9.1)]; rfl
                              have f9 : w9.frozen? ⟨z, 1, none⟩ = false := jfroz (show w9.heap[z]? = some (.cells #[.slice dAo D.length dco, .slice lA kl lc] 26 (0, 0)) from h9.1)
                              have H9 := Lib.hid h9.2
                              clear hown9 hgrow9 hat9 hlt9 h9)
                           all_goals
                             (obtain ⟨W, hW⟩ : ∃ W, w9.setCell ⟨z, 1, none⟩ (.slice (some ⟨g9, 0, none⟩) (kl + 1) cap9) = W := ⟨_, rfl⟩
                              rw [hW] at H9 ⊢
                              have b1' : W.cell? ⟨bb, 1, none⟩ = some (.slice (some ⟨gB, 0, none⟩) sz cB) := by
                                have h1 := HUS.out.fb.2.1
                                rw [HSZ.out] at h1
                                exact (H9.out.2.2.2.cell (by show bb < z; exact hbbz)).trans h1
                              have x1' : W.cell? ⟨gB, c * 4 + 1, none⟩ = some (I (nc : Int)) := (H9.out.2.2.2.cell (p := ⟨gB, c * 4 + 1, none⟩) (by show gB < z; exact hgBz)).trans ((HBL8.out.cell (p := ⟨gB, c * 4 + 1, none⟩) (by show gB < z; exact hgBz)).symm.trans x1)
                              clear hW c9 f9 b1 x0 x1 x2 z1 z1a
                              go_wp2
                              go_roundg m'
                              case measure => omega
                              case rel =>
                                refine ⟨nc, K ++ [x], _, rfl, by rw [← HNN.out]; exact HNC.out, by rw [← HNN.out]; exact HPC.out, ?_, ?_, H9.out.1, H9.out.2.1, H9.out.2.2.1, H9.out.2.2.2⟩
                                · rw [List.length_append, HKL.out]
                                  simp
                                  have := HKL.out
                                  omega
                                · rw [← HKE.out, lft_cons_f HMK.out, HX.out, HNN.out]
                                  simp)
               | true =>
                 have HQ0 := Lib.hid HJK.out.nowB
                 obtain ⟨wq, hwq⟩ : ∃ wq, wq = wr := ⟨_, rfl⟩
                 subst hwq
                 go_wp2
                 go_loopw [14, 85] (fun ag iv wr => ∃ (b : Bool) (i : Nat), i ≤ nh ∧ ag = .bool b ∧ iv = .int .i64 i ∧ UT al base bb gH nh nh (.slice PA nh pc) (prog0 es) (Wk.runs (alg al) (dds (prog0 es)) (fun v => (prog0 es v).length) (List.range i)) w wr ∧ TQk wr base (.slice none 0 0) (.slice none 0 0) ∧ (b = false → ∀ v, v < i → ¬ Wk.ix v < (prog0 es v).length) ∧ (b = true → k < 875 ∧ Wk.now < (Wk.runs (alg al) (dds (prog0 es)) (fun v => (prog0 es v).length) (List.range i)).now)) (fun _ iv _ => nh - (intOf iv).toNat)
                 case atStart => exact ⟨false, 0, Nat.zero_le _, rfl, rfl, HJK.out, HTK.out, fun _ v hv => absurd hv (by omega), fun h => by cases h⟩
                 case round =>
                   obtain ⟨b, i, hi, rfl, rfl, hjr, htr, hbf, hbt⟩ := hrel
                   have HJI := Lib.hid hjr
                   have HTI := Lib.hid htr
                   have HBF := Lib.hid hbf
                   have HBT := Lib.hid hbt
                   clear hjr htr hbf hbt
                   by_cases hlt : i < nh
                   · have hinvi := HS.out.runs (List.range i) HINVK.out (fun v hv => by have := List.mem_range.mp hv; omega)
                     have hnowi := runs_now (A := alg al) (D := dds (prog0 es)) (len := fun v => (prog0 es v).length) (List.range i) Wk
                     rw [List.length_range] at hnowi
                     have HSN : Hid (Wk.runs (alg al) (dds (prog0 es)) (fun v => (prog0 es v).length) (List.range (i + 1)) = (Wk.runs (alg al) (dds (prog0 es)) (fun v => (prog0 es v).length) (List.range i)).go1 (alg al) (dds (prog0 es)) (fun v => (prog0 es v).length) i) := by
                       rw [List.range_succ]
                       exact runs_snoc _ _ _
                     have HID : Hid ((∀ v, v < i → ¬ Wk.ix v < (prog0 es v).length) → Wk.runs (alg al) (dds (prog0 es)) (fun v => (prog0 es v).length) (List.range i) = Wk) := fun h => runs_idle _ fun v hv => h v (List.mem_range.mp hv)
                     obtain ⟨Wi, hWi⟩ : ∃ Wi, Wk.runs (alg al) (dds (prog0 es)) (fun v => (prog0 es v).length) (List.range i) = Wi := ⟨_, rfl⟩
                     have HWI := Lib.hid hWi
                     rw [hWi] at HJI HBT hinvi hnowi HSN HID
                     have HOKI := Lib.hid (HS.out.ok hinvi)
                     have HNI := Lib.hid hnowi
                     have n4 : wr.cell? ⟨bb, 4, none⟩ = some (I Wi.now) := by obtain ⟨_, _, _, _, hu, _⟩ := HJI.out.ub; exact hu.fb.2.2.2.2.1
                     obtain ⟨t, ht⟩ : ∃ t, Wi.now = t := ⟨_, rfl⟩
                     have HTT := Lib.hid ht
                     rw [ht] at n4
                     clear hinvi hnowi hWi ht
                     by_cases hix : Wi.ix i < (prog0 es i).length
                     · have hk8 : k < 875 := by
                         apply Classical.byContradiction
                         intro hn
                         have hall := HFIN.out (by omega)
                         have := HID.out fun v hv => hall v (by omega)
                         rw [this] at hix
                         exact hall i hlt hix
                       have hn4 : t < 4000 := by have := HNI.out; have := HNOWK.out; have := HTT.out; omega
                       have HG := Lib.hid (ustep_any HAL.out HJI.out HBZ.out.symm HP.out HES.out HOKI.out hlt (by have := HTT.out; omega) (b := true) (by simp [hix]))
                       have hgo : Wi.go1 (alg al) (dds (prog0 es)) (fun v => (prog0 es v).length) i = Wi.go (alg al) (dds (prog0 es)) i := by unfold Wd.go1; rw [if_pos hix]
                       have HNEW : Hid (Wk.now < (Wi.go1 (alg al) (dds (prog0 es)) (fun v => (prog0 es v).length) i).now) := by
                         show Wk.now < _
                         rw [hgo]
                         show Wk.now < Wi.now + 1
                         have := HNI.out
                         omega
                       have hn4i : (t : Int) < 4000 := by omega
                       clear hix hgo
                       go_wp2_with fail
                       refine HG.out.mono ?_
                       rintro e w2 ⟨rfl, hj2, hf2⟩
                       rw [← HSN.out] at hj2
                       have HJ3 := Lib.hid hj2
                       have HT3 := Lib.hid (hf2.tqk HTI.out)
                       clear hj2 hf2 n4
                       go_wp2
                       go_roundw
                       case rel => exact ⟨true, i + 1, by omega, rfl, by go_num, HJ3.out, HT3.out, fun h => (by cases h), fun _ => ⟨hk8, by rw [HSN.out]; exact HNEW.out⟩⟩
                       case measure => simp [intOf]; omega
                     · have HGO : Hid (Wi.go1 (alg al) (dds (prog0 es)) (fun v => (prog0 es v).length) i = Wi) := by show _ = _; unfold Wd.go1; rw [if_neg hix]
                       have HIX := Lib.hid hix
                       have HREL : Hid (∀ v, b = false → v < i + 1 → ¬ Wk.ix v < (prog0 es v).length) := fun v hb hv => by
                         have hold := HBF.out hb
                         by_cases e : v = i
                         · subst e
                           have := HIX.out
                           rw [HID.out hold] at this
                           exact this
                         · exact hold v (by omega)
                       by_cases hn4i : (t : Int) < 4000
                       · have HG := Lib.hid (ustep_any HAL.out HJI.out HBZ.out.symm HP.out HES.out HOKI.out hlt (by have := HTT.out; omega) (b := false) (by simp [hix]))
                         clear hix
                         go_wp2_with fail
                         refine HG.out.mono ?_
                         rintro e w2 ⟨rfl, hj2, hf2⟩
                         rw [← HSN.out] at hj2
                         have HJ3 := Lib.hid hj2
                         have HT3 := Lib.hid (hf2.tqk HTI.out)
                         clear hj2 hf2 n4
                         go_wp2
                         go_roundw
                         case rel => exact ⟨b, i + 1, by omega, rfl, by go_num, HJ3.out, HT3.out, fun hb v hv => HREL.out v hb hv, fun hb => ⟨(HBT.out hb).1, by rw [HSN.out, HGO.out]; exact (HBT.out hb).2⟩⟩
                         case measure => simp [intOf]; omega
                       · clear hix
                         go_wp2
                         go_roundw
                         case rel => exact ⟨b, i + 1, by omega, rfl, by go_num, by rw [HSN.out, HGO.out]; exact HJI.out, HTI.out, fun hb v hv => HREL.out v hb hv, fun hb => ⟨(HBT.out hb).1, by rw [HSN.out, HGO.out]; exact (HBT.out hb).2⟩⟩
                         case measure => simp [intOf]; omega
                   · obtain rfl : nh = i := by omega
                     have HNR := Lib.hid HJI.out.nowB
                     cases b with
                     | true =>
                       obtain ⟨hk8, hnlt⟩ := HBT.out rfl
                       have HNLE : Hid ((Wk.runs (alg al) (dds (prog0 es)) (fun v => (prog0 es v).length) (List.range nh)).now ≤ 4000) := by
                         have h1 := HS.out.nows (k + 1) (by omega)
                         rw [HW.out, HSUCC.out] at h1
                         show _ ≤ _
                         omega
                       go_wp2
                       go_roundw
                       case rel => exact ⟨true, k + 1, rfl, by omega, by rw [HSUCC.out]; exact HJI.out, HTI.out, fun h => by cases h⟩
                       case measure => have := HNLE.out; simp [HQ0.out, HNR.out]; omega
                     | false =>
                       have hall := HBF.out rfl
                       have HE : Hid (Wk.runs (alg al) (dds (prog0 es)) (fun v => (prog0 es v).length) (List.range nh) = Wk) := runs_idle _ fun v hv => hall v (List.mem_range.mp hv)
                       have HALL := Lib.hid hall
                       clear hall
                       go_wp2
                       go_roundw
                       case rel => exact ⟨false, k, rfl, hk, by rw [HWK.out]; have := HJI.out; rw [HE.out] at this; exact this, HTI.out, fun _ => by rw [HWK.out]; exact HALL.out⟩
                       case measure =>
                         have := HNOWK.out
                         simp [HQ0.out]; omega)
end Go.Proofs.Ytfmdpmebllepeaa
