/-
  hedglaw.HandsSay.
-/
import Derived.Test.YtfmdpmebllepeaaUHandled
import Derived.Test.YtfmdpmebllepeaaURow2All
import Derived.Test.YtfmdpmebllepeaaUSame
import Derived.Deep.RegionHeld3
namespace Go.Proofs.Ytfmdpmebllepeaa
open Go.RowKit Go.Maps

theorem pn_uniq {nx : Nat → Nat} {tl c m : Nat} (h : Pn nx tl c m) : ∀ {m' : Nat}, Pn nx tl c m' → m = m' := by
  induction h with
  | last =>
    intro m' h'
    cases h' with
    | last => rfl
    | step a _ => exact absurd rfl a
  | step hne _ ih =>
    intro m' h'
    cases h' with
    | last => exact absurd rfl hne
    | step _ h2 => rw [ih h2]
theorem lft_le (s : Bs) : ∀ (m c : Nat), (lft s m c).length ≤ m
  | 0, _ => Nat.le_refl _
  | m + 1, c => by
    have h1 := lft_le s m (s.nx c)
    cases h : s.mrk c with
    | true => rw [lft_cons_t h]; omega
    | false => rw [lft_cons_f h, List.length_cons]; omega
theorem handled_ok {al nh on oc pc n c : Nat} {l ord : List Int} {es : List Sl} {A PA OA : Option Addr} {w : World} (hal : al = 1 ∨ al = 2 ∨ al = 3 ∨ al = 4) (h : IS w A n c l) (hP : RS w PA nh pc es) (hO : IS w OA on oc ord) (hE : chkH l es on = 0) {m : Nat} (hm : Pn (Wend al nh (prog0 es) l ord).s.nx (Wend al nh (prog0 es) l ord).s.tl ((Wend al nh (prog0 es) l ord).s.nx 0) m) :
    m ≤ 1000 ∧ (Tdl (Wend al nh (prog0 es) l ord) nh (fun v => (prog0 es v).length)).length ≤ 16 ∧ ∀ w1, Below w.heap.size w w1 → Calls Try.prog 8 #[I al, .slice A n c, .slice PA nh pc, .slice OA on oc] w1 (RetTold w1.heap.size (Tdl (Wend al nh (prog0 es) l ord) nh (fun v => (prog0 es v).length)) (lft (Wend al nh (prog0 es) l ord).s m ((Wend al nh (prog0 es) l ord).s.nx 0)) w1) := by
  obtain ⟨hd, ho5, hes4⟩ := dok_of PA nh pc l es w hP hE
  obtain ⟨Inv, hS⟩ := sound_any (ord := ord) hal hd (by rw [hO.len]; exact ho5)
  have hinv : Inv (Wend al nh (prog0 es) l ord) := hS.rounds (hS.runs (ordN nh ord) hS.i0 ordN_lt) 875
  obtain ⟨m', hm1, hm2⟩ := (hS.lf hinv).pn
  obtain rfl := pn_uniq hm hm1
  refine ⟨hm2, ?_, fun w1 hb => handled_any hS hal A PA OA n c pc on oc m w1 (h.below hb) (ris_len hd.ris) (hP.below hb) hd.nh4 hes4 (hO.below hb) ho5 hm hm2⟩
  have := tdl_le (Wend al nh (prog0 es) l ord) (len := fun v => (prog0 es v).length) hd.l4 nh
  have := hd.nh4
  omega
set_option maxRecDepth 100000 in
set_option maxHeartbeats 16000000 in
theorem say_law (algo : Int) (A : Option Addr) (n c : Nat) (l : List Int) (PA : Option Addr) (nh pc : Nat) (es : List Sl) (OA : Option Addr) (on oc : Nat) (ord : List Int) (w : World) (hw : (Lit.int .i64 algo).wf = true)
    (h : IS w A n c l) (hn : n ≤ 9223372036854775807) (hP : RS w PA nh pc es) (hnh : nh ≤ 9223372036854775807) (hes : ∀ s ∈ es, s.n ≤ 9223372036854775807) (hO : IS w OA on oc ord) (hon : on ≤ 9223372036854775807) :
    Calls Try.prog 3 #[I algo, .slice A n c, .slice PA nh pc, .slice OA on oc] w fun e w' => e = .returned (.bool true) ∧ Below w.heap.size w w' := by
  have HR := Lib.hid (run_all2 A PA OA n c nh pc on oc l ord es w algo hw h hP hO hn hnh hon hes)
  have HRT : Hid (∀ w1, Below w.heap.size w w1 → Calls Try.prog 6 #[I algo, .slice A n c, .slice PA nh pc, .slice OA on oc] w1 fun e w' => e = .returned (I (errR algo l es on)) ∧ Below w1.heap.size w1 w') := fun w1 hb => right_any algo A PA OA n c nh pc on oc l es w1 (h.below hb) (hP.below hb) hn hnh hon hes
  have H := Lib.hid h
  have HP := Lib.hid hP
  have HO := Lib.hid hO
  obtain ⟨E, hE⟩ : ∃ E, errR algo l es on = E := ⟨_, rfl⟩
  have HE := Lib.hid hE
  rw [hE] at HRT
  clear h hP hO hE
  go_enter Try.func3, Try.ntmps3
  go_wp2_with fail
  refine HR.out.mono ?_
  rintro e w6 ⟨dA, lA, dn, dc, ln, lc, rfl, hb, hE0, hEz⟩
  rw [HE.out] at hE0 hEz ⊢
  have HB6 := Lib.hid hb
  clear hb
  have hz6 : (w6.alloc (.cells #[.slice dA dn dc, .slice lA ln lc] 26)).heap.size = w6.heap.size + 1 := by simp
  have HA6 : Hid (Below w6.heap.size w6 (w6.alloc (.cells #[.slice dA dn dc, .slice lA ln lc] 26))) := (Below.refl _ _).alloc (Nat.le_refl _) _
  have HR6 := Lib.hid (HRT.out _ (HB6.out.trans (HA6.out.mono HB6.out.size)))
  have HZ6 := Lib.hid hz6
  have HE0 := Lib.hid hE0
  have HEZ := Lib.hid hEz
  clear hz6 hE0 hEz
  go_wp2_with fail
  refine HR6.out.mono ?_
  rintro e w7 ⟨rfl, hb7⟩
  rw [HZ6.out] at hb7
  have HT0 : Hid (w7.cell? ⟨w6.heap.size, 0, none⟩ = some (.slice dA dn dc)) := by
    show _ = _
    rw [hb7.cell (p := ⟨w6.heap.size, 0, none⟩) (by show w6.heap.size < _; omega)]; simp
  have HT1 : Hid (w7.cell? ⟨w6.heap.size, 1, none⟩ = some (.slice lA ln lc)) := by
    show _ = _
    rw [hb7.cell (p := ⟨w6.heap.size, 1, none⟩) (by show w6.heap.size < _; omega)]; simp
  have HB67 : Hid (Below w6.heap.size w6 w7) := HA6.out.trans (hb7.mono (by omega))
  have HB7 : Hid (Below w.heap.size w w7) := HB6.out.trans (HB67.out.mono HB6.out.size)
  have HS7 : Hid (w6.heap.size < w7.heap.size) := by have := hb7.size; have h9 := HZ6.out; show _ < _; omega
  clear hb7 HR6 HRT
  by_cases hEq : E = 0
  · subst hEq
    obtain ⟨al, rfl, hal, hchk, m, hm, hD, hL⟩ := HEZ.out rfl
    obtain ⟨hm1, hd16, hHD⟩ := handled_ok hal (H.out.below HB7.out) (HP.out.below HB7.out) (HO.out.below HB7.out) hchk hm
    have hl1 := lft_le (Wend al nh (prog0 es) l ord).s m ((Wend al nh (prog0 es) l ord).s.nx 0)
    obtain ⟨L, hLd⟩ : ∃ L, Tdl (Wend al nh (prog0 es) l ord) nh (fun v => (prog0 es v).length) = L := ⟨_, rfl⟩
    obtain ⟨lf, hlf⟩ : ∃ lf, lft (Wend al nh (prog0 es) l ord).s m ((Wend al nh (prog0 es) l ord).s.nx 0) = lf := ⟨_, rfl⟩
    rw [hLd] at hD hHD hd16
    rw [hlf] at hL hHD hl1
    have HD := Lib.hid (hD.below HB67.out)
    have HL := Lib.hid (hL.below HB67.out)
    have hdn : dn ≤ 1000 := by rw [← HD.out.len]; omega
    have hln : ln ≤ 1000 := by rw [← HL.out.len]; omega
    have HHD := Lib.hid hHD
    have T0 := HT0.out
    have T1 := HT1.out
    clear hal hchk hm hD hL hm1 hd16 hHD hl1 hLd hlf HE0 HEZ HE
    go_wp2_with fail
    go_region_held3 (fun w' => w'.cell? ⟨w6.heap.size, 0, none⟩ = some (.slice dA dn dc) ∧ w'.cell? ⟨w6.heap.size, 1, none⟩ = some (.slice lA ln lc)) (first
      | exact ⟨HT0.out, HT1.out⟩
      | exact ⟨(HB9.out.cell (p := ⟨w6.heap.size, 0, none⟩) HS7.out).trans HT0.out, (HB9.out.cell (p := ⟨w6.heap.size, 1, none⟩) HS7.out).trans HT1.out⟩
      | exact ⟨(HB8.out.cell (p := ⟨w6.heap.size, 0, none⟩) HS7.out).trans HT0.out, (HB8.out.cell (p := ⟨w6.heap.size, 1, none⟩) HS7.out).trans HT1.out⟩)
      (first
      | (go_at_call 8
         refine (HHD.out _ (Below.refl _ _).drew).mono ?_
         rintro e w8 ⟨dv8, lv8, rfl, hd8, hl8, hb8⟩
         have HB8 : Hid (Below w7.heap.size w7 w8) := (Below.refl _ _).drew.trans hb8
         obtain ⟨dA8, dc8, rfl, hdr8⟩ := hd8.dr
         obtain ⟨lA8, lc8, rfl, his8, -⟩ := hl8.is_
         rw [HD.out.len] at hdr8
         rw [HL.out.len] at his8
         rw [HD.out.len, HL.out.len]
         have HSM := Lib.hid (sameTold_any dA dA8 lA lA8 dn ln dc dc8 lc lc8 L lf w8 (HD.out.below HB8.out) hdr8 (HL.out.below HB8.out) his8 hdn hln)
         clear hd8 hl8 hb8 hdr8 his8)
      | (go_at_call 7
         refine HSM.out.mono ?_
         rintro e w9 ⟨rfl, hb9⟩
         have HB9 : Hid (Below w7.heap.size w7 w9) := HB8.out.trans (hb9.mono HB8.out.size)
         clear hb9))
    all_goals
      go_wp2
      go_ret
      exact ⟨by simp, HB7.out.trans (HB9.out.mono HB7.out.size)⟩
  · obtain ⟨rfl, rfl⟩ := HE0.out hEq
    have hne : (E != 0) = true := by simp; exact hEq
    have hee : (E == E) = true := by simp
    have HSM := Lib.hid (sameTold_any dA none lA none 0 0 dc 0 lc 0 [] [] w7 ⟨rfl, fun h0 => absurd h0 (by decide)⟩ ⟨rfl, fun h0 => absurd h0 (by decide)⟩ ⟨rfl, Nat.zero_le _, fun h0 => absurd h0 (by decide)⟩ ⟨rfl, Nat.zero_le _, fun h0 => absurd h0 (by decide)⟩ (by decide) (by decide))
    have T0 := HT0.out
    have T1 := HT1.out
    clear HEZ HE0 HE hEq
    go_wp2_with fail
    refine HSM.out.mono ?_
    rintro e w9 ⟨rfl, hb9⟩
    have HB9 : Hid (Below w.heap.size w w9) := HB7.out.trans (hb9.mono HB7.out.size)
    clear hb9 T0 T1
    go_wp2
    go_ret
    exact ⟨by simp, HB9.out⟩
end Go.Proofs.Ytfmdpmebllepeaa
