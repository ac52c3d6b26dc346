/-
  hedgkeep.HandsCount.
-/
import Derived.Test.YtdjdjaegihhmiaaJRunAll
import Derived.Test.YtdjdjaegihhmiaaJEndP
import Derived.Test.YtdjdjaegihhmiaaJLivesW
import Derived.BigRegion
namespace Go.Proofs.Ytdjdjaegihhmiaa
open Go.RowKit Go.Maps

/-- ten sums as cells -/
abbrev i10 (f : Nat → Int) : Array Value := #[I (f 0), I (f 1), I (f 2), I (f 3), I (f 4), I (f 5), I (f 6), I (f 7), I (f 8), I (f 9)]
def IBk (w : World) (g : Nat) (f : Nat → Int) : Prop := w.heap[g]? = some (.cells (i10 f) 43 (0, 0))
theorem IBk.set {w : World} {g : Nat} {f : Nat → Int} (h : IBk w g f) {x : Nat} (hx : x < 10) (v : Int) : IBk (w.setCell ⟨g, x, none⟩ (I v)) g (upd f x v) := by
  unfold IBk
  rw [jset_at h]
  rcases (show x = 0 ∨ x = 1 ∨ x = 2 ∨ x = 3 ∨ x = 4 ∨ x = 5 ∨ x = 6 ∨ x = 7 ∨ x = 8 ∨ x = 9 by omega) with rfl | rfl | rfl | rfl | rfl | rfl | rfl | rfl | rfl | rfl <;> rfl
theorem IBk.cell {w : World} {g : Nat} {f : Nat → Int} (h : IBk w g f) {x : Nat} (hx : x < 10) : w.cell? ⟨g, x, none⟩ = some (I (f x)) := by
  rw [jcell h]
  rcases (show x = 0 ∨ x = 1 ∨ x = 2 ∨ x = 3 ∨ x = 4 ∨ x = 5 ∨ x = 6 ∨ x = 7 ∨ x = 8 ∨ x = 9 by omega) with rfl | rfl | rfl | rfl | rfl | rfl | rfl | rfl | rfl | rfl <;> rfl
theorem adds_next {α : Type} {pre : List (Int × Int)} {M : List α} {f : α → Int × Int} {k : Nat} (hk : k < M.length) {x : Nat} {d : Int} (hf : f M[k] = ((x : Int), d)) : adds (pre ++ (M.take (k + 1)).map f) = upd (adds (pre ++ (M.take k).map f)) x (adds (pre ++ (M.take k).map f) x + d) := by
  rw [List.take_succ_eq_append_getElem hk, List.map_append, List.map_singleton, hf, ← List.append_assoc, adds_snoc]
theorem adds_keep {α : Type} {pre : List (Int × Int)} {M : List α} {f : α → Int × Int} {k : Nat} (hk : k < M.length) (hf : (f M[k]).2 = 0) : adds (pre ++ (M.take (k + 1)).map f) = adds (pre ++ (M.take k).map f) := by
  rw [List.take_succ_eq_append_getElem hk, List.map_append, List.map_singleton, ← List.append_assoc]
  funext i
  rw [adds_append _ [f M[k]]]
  simp [adds, hf]
def Unit1 (es : List (Int × Int)) : Prop := ∀ e ∈ es, -1 ≤ e.2 ∧ e.2 ≤ 1
theorem Unit1.app {α : Type} {pre : List (Int × Int)} (h : Unit1 pre) (M : List α) {f : α → Int × Int} (hf : ∀ x, -1 ≤ (f x).2 ∧ (f x).2 ≤ 1) (k : Nat) : Unit1 (pre ++ (M.take k).map f) := by
  intro e he
  rcases List.mem_append.mp he with he | he
  · exact h e he
  · obtain ⟨x, _, rfl⟩ := List.mem_map.mp he
    exact hf x
theorem Unit1.bd {es : List (Int × Int)} (h : Unit1 es) (hl : es.length ≤ 40) (i : Nat) : -40 ≤ adds es i ∧ adds es i ≤ 40 := by
  have := adds_le h i
  omega
theorem ded_unit (P : Nat → PL) (x : Dn) : -1 ≤ (ded P x).2 ∧ (ded P x).2 ≤ 1 := by
  unfold ded
  show -1 ≤ (if _ then _ else _) ∧ (if _ then _ else _) ≤ _
  repeat' split
  all_goals omega
set_option maxRecDepth 100000 in
set_option maxHeartbeats 16000000 in
theorem count_law (algo : Int) (A : Option Addr) (n c : Nat) (l : List Int) (PA : Option Addr) (nh pc : Nat) (es : List Sl) (OA : Option Addr) (on oc : Nat) (ord : List Int) (w : World) (hw : (Lit.int .i64 algo).wf = true)
    (h : IS w A n c l) (hn : n ≤ 9223372036854775807) (hP : RS w PA nh pc es) (hnh : nh ≤ 9223372036854775807) (hes : ∀ s ∈ es, s.n ≤ 9223372036854775807) (hO : IS w OA on oc ord) (hon : on ≤ 9223372036854775807) :
    Calls Try.prog 6 #[I algo, .slice A n c, .slice PA nh pc, .slice OA on oc] w fun e w' => e = .returned (.bool true) ∧ Below w.heap.size w w' := by
  have HR := Lib.hid (run_all A PA OA n c nh pc on oc l ord es w algo hw h hP hO hn hnh hon hes)
  have H := Lib.hid h
  have HP := Lib.hid hP
  have HOL := Lib.hid hO.len
  clear h hP hO
  go_enter Try.func6, Try.ntmps6
  go_wp2_with fail
  refine HR.out.mono ?_
  rintro e w6 ⟨dA, lA, dn, dc, ln, lc, E, rfl, hb, -, hE⟩
  have HB6 := Lib.hid hb
  clear hb
  have HLV := Lib.hid (lives_any (w6.alloc (.cells #[.slice dA dn dc, .slice lA ln lc] 26)))
  go_wp2_with fail
  refine HLV.out.mono ?_
  rintro e w7 ⟨rfl, hb7⟩
  have hz : (w6.alloc (.cells #[.slice dA dn dc, .slice lA ln lc] 26)).heap.size = w6.heap.size + 1 := by simp
  rw [hz] at hb7
  have t0 : w7.cell? ⟨w6.heap.size, 0, none⟩ = some (.slice dA dn dc) := by
    rw [hb7.cell (p := ⟨w6.heap.size, 0, none⟩) (by show w6.heap.size < _; omega)]; simp
  have t1 : w7.cell? ⟨w6.heap.size, 1, none⟩ = some (.slice lA ln lc) := by
    rw [hb7.cell (p := ⟨w6.heap.size, 1, none⟩) (by show w6.heap.size < _; omega)]; simp
  have HT0 := Lib.hid t0
  have HT1 := Lib.hid t1
  have b67 : Below w6.heap.size w6 w7 := ((Below.refl _ _).alloc (Nat.le_refl _) _).trans (hb7.mono (by omega))
  have HB7 : Hid (Below w.heap.size w w7) := HB6.out.trans (b67.mono HB6.out.size)
  have hs7 : w6.heap.size < w7.heap.size := by have := hb7.size; omega
  have HS7 := Lib.hid hs7
  have HB67 := Lib.hid b67
  clear hb7 hz t0 t1 hs7 b67
  have HLV2 := Lib.hid (lives_any w7)
  by_cases hE0 : E = 0
  · subst hE0
    obtain ⟨al, rfl, hal, hchk, m, hm, hD, hL⟩ := hE rfl
    clear hE
    by_cases h4 : al = 4
    · subst h4
      clear hal hchk hm hD hL
      go_wp2_with fail
      refine HLV2.out.mono ?_
      rintro e w8 ⟨rfl, hb8⟩
      have HB8 : Hid (Below w.heap.size w w8) := HB7.out.trans (hb8.mono HB7.out.size)
      clear hb8
      go_wp2
      go_ret
      exact ⟨rfl, HB8.out⟩
    · have hal3 : al = 1 ∨ al = 2 ∨ al = 3 := by omega
      have h4b : ((al : Int) == 4) = false := by simp; omega
      obtain ⟨hdk, ho5, hs4⟩ := dok_of PA nh pc l es w HP.out hchk
      have hcz := fun i (hi : i < 10) => count_zero hal3 hdk (ord := ord) (by rw [HOL.out]; exact ho5) hm hi
      have hlr := (left_is (end3 hal3 hdk (ord := ord) (by rw [HOL.out]; exact ho5)).1 hm).1
      have hmem : ∀ x ∈ Tdl (Wend al nh (prog0 es) l ord) nh (fun v => (prog0 es v).length), x.w < nh ∧ x.j < (prog0 es x.w).length := fun x hx => by
        obtain ⟨v, j, hv, hj, e⟩ := mem_Tdl.1 hx
        have := tolD_w (Wend al nh (prog0 es) l ord) v j
        rw [e] at this
        obtain ⟨e1, e2⟩ := Prod.mk.inj this
        rw [e1, e2]
        exact ⟨hv, hj⟩
      have hl16 : (Tdl (Wend al nh (prog0 es) l ord) nh (fun v => (prog0 es v).length)).length ≤ 16 := by
        have := tdl_len (W := Wend al nh (prog0 es) l ord) hdk.l4 nh
        have := hdk.nh4
        omega
      obtain ⟨L, hLd⟩ : ∃ L, Tdl (Wend al nh (prog0 es) l ord) nh (fun v => (prog0 es v).length) = L := ⟨_, rfl⟩
      obtain ⟨lf, hlf⟩ : ∃ lf, lft (Wend al nh (prog0 es) l ord).s m ((Wend al nh (prog0 es) l ord).s.nx 0) = lf := ⟨_, rfl⟩
      rw [hLd] at hcz hmem hl16 hD
      rw [hlf] at hcz hlr hL
      have HCZ := Lib.hid hcz
      have HLR := Lib.hid hlr
      have HME := Lib.hid hmem
      have HL16 := Lib.hid hl16
      have HD := Lib.hid (hD.below HB67.out)
      have HL := Lib.hid (hL.below HB67.out)
      have H7 := Lib.hid (H.out.below HB7.out)
      have HP7 := Lib.hid (HP.out.below HB7.out)
      have HRI := Lib.hid hdk.ris
      have HDE := Lib.hid hdk.dees
      clear hal hchk hm hD hL hdk ho5 hs4 hcz hlr hmem hl16 hLd hlf
      have HU0 : Hid (Unit1 (([] : List (Int × Int)))) := fun e he => by cases he
      have HU1 : Hid (Unit1 (l.map fun k : Int => (k, (1 : Int)))) := fun e he => by
        obtain ⟨x, _, rfl⟩ := List.mem_map.mp he
        exact ⟨by show (-1 : Int) ≤ 1; omega, by show (1 : Int) ≤ 1; omega⟩
      have hn10 : n ≤ 10 := by rw [← H7.out.len]; exact ris_len HRI.out
      have hln10 : ln ≤ 10 := by rw [← HL.out.len]; exact ris_len HLR.out
      have hdn16 : dn ≤ 16 := by rw [← HD.out.len]; exact HL16.out
      go_wp2
      go_loopw [41] (fun iv wr => ∃ k : Nat, k ≤ n ∧ iv = .int .i64 k ∧ IBk wr w7.heap.size (adds ([] ++ (l.take k).map fun k => (k, 1))) ∧ Below w7.heap.size w7 wr) (fun iv _ => n - (intOf iv).toNat)
      case atStart =>
        refine ⟨0, Nat.zero_le _, rfl, ?_, (Below.refl _ _).alloc (Nat.le_refl _) _⟩
        have : adds ([] ++ (l.take 0).map fun k => (k, 1)) = fun _ => 0 := by funext i; simp [adds]
        rw [this]
        exact heap_alloc_new w7 _
      case round =>
        obtain ⟨k, hk, rfl, h1, hbl⟩ := hrel
        have H1 := Lib.hid h1
        have HBL := Lib.hid hbl
        by_cases hlt : k < n
        · obtain ⟨b, off, rfl, hb, hc⟩ := H7.out.at_ (by omega)
          have hkl : k < l.length := by rw [H7.out.len]; exact hlt
          have hck : wr.cell? ⟨b, off + k, none⟩ = some (I l[k]) := (hbl.cell (by exact hb)).trans (hc k hlt)
          have hr := HRI.out.2 _ (List.getElem_mem hkl)
          obtain ⟨y, hy⟩ : ∃ y : Nat, l[k] = y := ⟨l[k].toNat, by omega⟩
          rw [hy] at hck hr
          have hy10 : y < 10 := by omega
          have hcy := h1.cell hy10
          have hfy := jfroz (i := y) h1
          have HN := Lib.hid (adds_next (pre := []) (f := fun k : Int => (k, (1 : Int))) hkl (x := y) (d := 1) (by show (l[k], (1 : Int)) = _; rw [hy]))
          have hbd := (HU0.out.app l (f := fun k : Int => (k, (1 : Int))) (fun x => ⟨by show (-1 : Int) ≤ 1; omega, by show (1 : Int) ≤ 1; omega⟩) k).bd (by simp; omega) y
          obtain ⟨v, hv⟩ : ∃ v, adds ([] ++ (l.take k).map fun k => (k, 1)) y = v := ⟨_, rfl⟩
          rw [hv] at hcy hbd HN
          have i1 : IntKind.i64.wrap (v + 1) = v + 1 := IntWalk.i64_in _ (by omega)
          have hy0 : 0 ≤ (y : Int) := by omega
          have hy1 : (y : Int) < 10 := by omega
          clear hc h1 hbl hr hy hv
          go_wp2
          go_roundw
          case rel =>
            refine ⟨k + 1, by omega, by go_num, ?_, HBL.out.setCell (p := ⟨w7.heap.size, y, none⟩) (Nat.le_refl _) _⟩
            rw [HN.out]
            exact H1.out.set hy10 _
          case measure => simp [intOf]; omega
        · obtain rfl : n = k := by omega
          have hfull : l.take n = l := List.take_of_length_le (by rw [H7.out.len]; exact Nat.le_refl _)
          rw [hfull, List.nil_append] at h1
          have H1 := Lib.hid h1
          have hz7 := hbl.size
          have u0 : wr.cell? ⟨w6.heap.size, 0, none⟩ = some (.slice dA dn dc) := (hbl.cell (p := ⟨w6.heap.size, 0, none⟩) HS7.out).trans HT0.out
          clear h1 hbl hfull
          go_wp2
          go_loopw [54] (fun iv wr => ∃ k : Nat, k ≤ dn ∧ iv = .int .i64 k ∧ IBk wr w7.heap.size (adds ((l.map fun k => (k, 1)) ++ (L.take k).map (ded (prog0 es)))) ∧ Below w7.heap.size w7 wr) (fun iv _ => dn - (intOf iv).toNat)
          case atStart =>
            refine ⟨0, Nat.zero_le _, rfl, ?_, HBL.out⟩
            rw [List.take_zero, List.map_nil, List.append_nil]
            exact H1.out
          case round =>
            clear HBL H1 u0
            obtain ⟨k, hk, rfl, h1, hbl⟩ := hrel
            have H1 := Lib.hid h1
            have HBL := Lib.hid hbl
            by_cases hlt : k < dn
            · obtain ⟨g, rfl, hg, hc⟩ := HD.out.at_ (by omega)
              have hkl : k < L.length := by rw [HD.out.len]; exact hlt
              obtain ⟨hw, hj⟩ := HME.out _ (List.getElem_mem hkl)
              have hDk := hc k hkl
              have hdd : ded (prog0 es) L[k] = ded (prog0 es) L[k] := rfl
              obtain ⟨⟨dw, dj, db, de, di⟩, hd⟩ : ∃ d, L[k] = d := ⟨_, rfl⟩
              rw [hd] at hw hj hDk
              have hw : dw < nh := hw
              have hj : dj < (prog0 es dw).length := hj
              have hwl : dw < es.length := by rw [HP7.out.len]; exact hw
              obtain ⟨pb, poff, rfl, hpb, hpc⟩ := HP7.out.at_ (by omega)
              have hpk := hpc dw hw
              obtain ⟨s, hs⟩ : ∃ s, es[dw] = s := ⟨_, rfl⟩
              rw [hs] at hpk
              have hp0 : prog0 es dw = s.L := by unfold prog0; rw [List.getElem?_eq_getElem hwl, hs]; rfl
              rw [hp0] at hj
              have hsok : PS w7 s.A s.n s.c s.L := HP7.out.each s (by rw [← hs]; exact List.getElem_mem hwl)
              obtain ⟨sA, sn, sc, sL⟩ := s
              have hsok : PS w7 sA sn sc sL := hsok
              have hj : dj < sL.length := hj
              have hjn : dj < sn := by rw [← hsok.len]; exact hj
              obtain ⟨sb, soff, hsA, hsb, hsc⟩ := hsok.at_ (by omega)
              have hsA : sA = some ⟨sb, soff, none⟩ := hsA
              subst hsA
              have hde := HDE.out dw dj (by show dj < (prog0 es dw).length; rw [hp0]; exact hj)
              have hdv : dds (prog0 es) dw dj = sL[dj] := by unfold dds; rw [hp0, List.getElem?_eq_getElem hj]; rfl
              obtain ⟨q1', q2'⟩ := hsc dj hjn
              obtain ⟨⟨kd, K⟩, hq⟩ : ∃ q, sL[dj] = q := ⟨_, rfl⟩
              rw [hq] at hdv
              rw [hdv] at hde
              have hq1 : w7.cell? ⟨sb, soff + dj * 2, none⟩ = some (I kd) := by rw [q1']; exact congrArg (fun q : Int × Int => some (I q.1)) hq
              have hq2 : w7.cell? ⟨sb, soff + (dj * 2 + 1), none⟩ = some (I K) := by rw [q2']; exact congrArg (fun q : Int × Int => some (I q.2)) hq
              obtain ⟨hK0, hk3⟩ := hde
              have hK0 : 0 ≤ K ∧ K ≤ 9 := hK0
              have hk3 : kd = 1 ∨ kd = 2 ∨ kd = 3 := hk3
              obtain ⟨y, rfl⟩ : ∃ y : Nat, K = y := ⟨K.toNat, by omega⟩
              have hy10 : y < 10 := by omega
              have hy0 : 0 ≤ (y : Int) := by omega
              have hy1 : (y : Int) < 10 := by omega
              have hlow : ∀ (p : Addr), p.block < w7.heap.size → ∀ o, (wr.alloc o).cell? p = w7.cell? p := fun p hp o => (World.cell?_of_block (Below.heap_alloc _ _ _ (Nat.lt_of_lt_of_le hp HBL.out.size))).trans (HBL.out.cell hp)
              have D0 : wr.cell? ⟨g, k * 5, none⟩ = some (I dw) := (HBL.out.cell (p := ⟨g, k * 5, none⟩) hg).trans (hDk 0 (by omega))
              have D1 : wr.cell? ⟨g, k * 5 + 1, none⟩ = some (I dj) := (HBL.out.cell (p := ⟨g, k * 5 + 1, none⟩) hg).trans (hDk 1 (by omega))
              have D2 : wr.cell? ⟨g, k * 5 + 2, none⟩ = some (I db) := (HBL.out.cell (p := ⟨g, k * 5 + 2, none⟩) hg).trans (hDk 2 (by omega))
              have D3 : wr.cell? ⟨g, k * 5 + 3, none⟩ = some (I de) := (HBL.out.cell (p := ⟨g, k * 5 + 3, none⟩) hg).trans (hDk 3 (by omega))
              have D4 : wr.cell? ⟨g, k * 5 + 4, none⟩ = some (.bool di) := (HBL.out.cell (p := ⟨g, k * 5 + 4, none⟩) hg).trans (hDk 4 (by omega))
              have P0 : ∀ o, (wr.alloc o).cell? ⟨pb, poff + dw, none⟩ = some (.slice (some ⟨sb, soff, none⟩) sn sc) := fun o => (hlow ⟨pb, poff + dw, none⟩ hpb o).trans hpk
              have Q0 : ∀ o, (wr.alloc o).cell? ⟨sb, soff + dj * 2, none⟩ = some (I kd) := fun o => (hlow ⟨sb, _, none⟩ hsb o).trans hq1
              have Q1 : ∀ o, (wr.alloc o).cell? ⟨sb, soff + (dj * 2 + 1), none⟩ = some (I y) := fun o => (hlow ⟨sb, _, none⟩ hsb o).trans hq2
              have hlow2 : ∀ (p : Addr), p.block < w7.heap.size → ∀ o o', ((wr.alloc o).alloc o').cell? p = w7.cell? p := fun p hp o o' => (World.cell?_of_block (Below.heap_alloc _ _ _ (Nat.lt_of_lt_of_le hp (by have := HBL.out.size; simp; omega)))).trans (hlow p hp o)
              have P0b : ∀ o o', ((wr.alloc o).alloc o').cell? ⟨pb, poff + dw, none⟩ = some (.slice (some ⟨sb, soff, none⟩) sn sc) := fun o o' => (hlow2 ⟨pb, poff + dw, none⟩ hpb o o').trans hpk
              have Q0b : ∀ o o', ((wr.alloc o).alloc o').cell? ⟨sb, soff + dj * 2, none⟩ = some (I kd) := fun o o' => (hlow2 ⟨sb, _, none⟩ hsb o o').trans hq1
              have Q1b : ∀ o o', ((wr.alloc o).alloc o').cell? ⟨sb, soff + dj * 2 + 1, none⟩ = some (I y) := fun o o' => (hlow2 ⟨sb, soff + (dj * 2 + 1), none⟩ hsb o o').trans hq2
              have Q1c : ∀ o, (wr.alloc o).cell? ⟨sb, soff + dj * 2 + 1, none⟩ = some (I y) := fun o => (hlow ⟨sb, soff + (dj * 2 + 1), none⟩ hsb o).trans hq2
              have HDD : Hid (ded (prog0 es) L[k] = ((y : Int), if di = true then (if kd = 1 then 1 else if kd = 2 then -1 else 0) else 0)) := by
                show _ = _
                rw [hd]
                unfold ded
                rw [hdv]
              clear hc h1 hbl hDk hpc hlow2 hlow q1' q2' hsc hq1 hq2 hpk
              have hbd := (HU1.out.app L (ded_unit (prog0 es)) k).bd (by have := HL16.out; have := HRI.out; have := ris_len this; simp; omega) y
              obtain ⟨v, hv⟩ : ∃ v, adds ((l.map fun k => (k, 1)) ++ (L.take k).map (ded (prog0 es))) y = v := ⟨_, rfl⟩
              rw [hv] at hbd
              have i1 : IntKind.i64.wrap (v + 1) = v + 1 := IntWalk.i64_in _ (by omega)
              have i2 : IntKind.i64.wrap (v - 1) = v - 1 := IntWalk.i64_in _ (by omega)
              have hgb : w7.heap.size < wr.heap.size := jblk H1.out
              have HGB := Lib.hid hgb
              have hI2 : ∀ o o', IBk (((wr.alloc o).alloc o').drew) w7.heap.size (adds ((l.map fun k => (k, 1)) ++ (L.take k).map (ded (prog0 es)))) := fun o o' => ((Below.heap_alloc _ _ _ (by simp; omega)).trans (Below.heap_alloc _ _ _ hgb)).trans H1.out
              have HI2 := Lib.hid hI2
              have HB2 : Hid (∀ o o', Below w7.heap.size w7 (((wr.alloc o).alloc o').drew)) := fun o o' => ((HBL.out.alloc HBL.out.size _).alloc (by have := HBL.out.size; simp; omega) _).drew
              have HI3 : Hid (∀ v o o', IBk ((((wr.setCell ⟨w7.heap.size, y, none⟩ (I v)).alloc o).alloc o').drew) w7.heap.size (upd (adds ((l.map fun k => (k, 1)) ++ (L.take k).map (ded (prog0 es)))) y v)) := fun v o o' => ((Below.heap_alloc _ _ _ (by rw [World.size_alloc, jsize_set]; omega)).trans (Below.heap_alloc _ _ _ (by rw [jsize_set]; exact hgb))).trans (H1.out.set hy10 v)
              have HB3 : Hid (∀ v o o', Below w7.heap.size w7 ((((wr.setCell ⟨w7.heap.size, y, none⟩ (I v)).alloc o).alloc o').drew)) := fun v o o' => (((HBL.out.setCell (p := ⟨w7.heap.size, y, none⟩) (Nat.le_refl _) _).alloc (by rw [jsize_set]; exact HBL.out.size) _).alloc (by have := HBL.out.size; rw [World.size_alloc, jsize_set]; omega) _).drew
              have s0 : ∀ o o', (((wr.alloc o).alloc o').drew).cell? ⟨w7.heap.size, y, none⟩ = some (I v) := fun o o' => by rw [← hv]; exact (hI2 o o').cell hy10
              have s0' : ∀ o o', ((wr.alloc o).alloc o').cell? ⟨w7.heap.size, y, none⟩ = some (I v) := fun o o' => s0 o o'
              have f0 : ∀ o o', (((wr.alloc o).alloc o').drew).frozen? ⟨w7.heap.size, y, none⟩ = false := fun o o' => jfroz (hI2 o o')
              have f0' : ∀ o o', ((wr.alloc o).alloc o').frozen? ⟨w7.heap.size, y, none⟩ = false := fun o o' => f0 o o'
              clear hI2
              go_wp2_with fail
              go_region
              clear P0 P0b Q0 Q0b Q1 Q1b Q1c D0 D1 D2 D3 D4
              cases di
              · go_wp2
                go_roundw
                case rel =>
                  refine ⟨k + 1, by omega, by go_num, ?_, HB2.out _ _⟩
                  rw [adds_keep hkl (by rw [HDD.out]; rfl)]
                  exact HI2.out _ _
                case measure => simp [intOf]; omega
              · rcases hk3 with rfl | rfl | rfl
                · go_wp2
                  go_roundw
                  case rel =>
                    refine ⟨k + 1, by omega, by go_num, ?_, HB3.out _ _ _⟩
                    rw [adds_next hkl (x := y) (d := 1) HDD.out, hv]
                    exact HI3.out _ _ _
                  case measure => simp [intOf]; omega
                · go_wp2
                  go_roundw
                  case rel =>
                    refine ⟨k + 1, by omega, by go_num, ?_, HB3.out _ _ _⟩
                    rw [adds_next hkl (x := y) (d := -1) HDD.out, hv]
                    exact HI3.out _ _ _
                  case measure => simp [intOf]; omega
                · go_wp2
                  go_roundw
                  case rel =>
                    refine ⟨k + 1, by omega, by go_num, ?_, HB2.out _ _⟩
                    rw [adds_keep hkl (by rw [HDD.out]; rfl)]
                    exact HI2.out _ _
                  case measure => simp [intOf]; omega
            · obtain rfl : dn = k := by omega
              have hfull : L.take dn = L := List.take_of_length_le (by rw [HD.out.len]; exact Nat.le_refl _)
              rw [hfull] at h1
              have H1 := Lib.hid h1
              have u1 : wr.cell? ⟨w6.heap.size, 1, none⟩ = some (.slice lA ln lc) := (hbl.cell (p := ⟨w6.heap.size, 1, none⟩) HS7.out).trans HT1.out
              have HU2 : Hid (Unit1 ((l.map fun k : Int => (k, (1 : Int))) ++ L.map (ded (prog0 es)))) := by
                have := HU1.out.app L (ded_unit (prog0 es)) dn
                rw [hfull] at this
                exact this
              clear h1 hbl hfull
              go_wp2
              go_loopw [17, 97] (fun la iv wr => ∃ k : Nat, k ≤ ln ∧ iv = .int .i64 k ∧ la = .int .i64 (if k = 0 then -1 else lf[k - 1]?.getD 0) ∧ IBk wr w7.heap.size (adds ((l.map fun k => (k, 1)) ++ L.map (ded (prog0 es)) ++ (lf.take k).map fun k => (k, -1))) ∧ Below w7.heap.size w7 wr) (fun _ iv _ => ln - (intOf iv).toNat)
              case atStart =>
                refine ⟨0, Nat.zero_le _, rfl, rfl, ?_, HBL.out⟩
                rw [List.take_zero, List.map_nil, List.append_nil]
                exact H1.out
              case round =>
                clear HBL H1 u1
                obtain ⟨k, hk, rfl, rfl, h1, hbl⟩ := hrel
                have H1 := Lib.hid h1
                have HBL := Lib.hid hbl
                by_cases hlt : k < ln
                · obtain ⟨b, off, rfl, hb, hc⟩ := HL.out.at_ (by omega)
                  have hkl : k < lf.length := by rw [HL.out.len]; exact hlt
                  have hck : wr.cell? ⟨b, off + k, none⟩ = some (I lf[k]) := (hbl.cell (by exact hb)).trans (hc k hlt)
                  have hr := HLR.out.2 _ (List.getElem_mem hkl)
                  obtain ⟨y, hy⟩ : ∃ y : Nat, lf[k] = y := ⟨lf[k].toNat, by omega⟩
                  obtain ⟨la, hla⟩ : ∃ la : Int, (if k = 0 then -1 else lf[k - 1]?.getD 0) = la := ⟨_, rfl⟩
                  have hlay : la < (y : Int) := by
                    rw [← hla]
                    by_cases h0 : k = 0
                    · rw [if_pos h0]; omega
                    · rw [if_neg h0, ← hy, List.getElem?_eq_getElem (by omega), Option.getD_some]
                      exact List.pairwise_iff_getElem.1 HLR.out.1 _ _ (by omega) hkl (by omega)
                  rw [hla]
                  have HLA : Hid ((if k + 1 = 0 then -1 else lf[k + 1 - 1]?.getD 0) = (y : Int)) := by
                    show _ = _
                    rw [if_neg (by omega), Nat.add_sub_cancel, List.getElem?_eq_getElem hkl, Option.getD_some, hy]
                  rw [hy] at hck hr
                  have hy10 : y < 10 := by omega
                  have hcy := h1.cell hy10
                  have hfy := jfroz (i := y) h1
                  have HN := Lib.hid (adds_next (pre := (l.map fun k => (k, 1)) ++ L.map (ded (prog0 es))) (f := fun k : Int => (k, (-1 : Int))) hkl (x := y) (d := -1) (by show (lf[k], (-1 : Int)) = _; rw [hy]))
                  have hbd := (HU2.out.app lf (f := fun k : Int => (k, (-1 : Int))) (fun x => ⟨by show (-1 : Int) ≤ -1; omega, by show (-1 : Int) ≤ 1; omega⟩) k).bd (by have := HL16.out; have := ris_len HRI.out; have := ris_len HLR.out; simp; omega) y
                  obtain ⟨v, hv⟩ : ∃ v, adds ((l.map fun k => (k, 1)) ++ L.map (ded (prog0 es)) ++ (lf.take k).map fun k => (k, -1)) y = v := ⟨_, rfl⟩
                  rw [hv] at hcy hbd HN
                  have i1 : IntKind.i64.wrap (v - 1) = v - 1 := IntWalk.i64_in _ (by omega)
                  have hy0 : 0 ≤ (y : Int) := by omega
                  have hy1 : (y : Int) < 10 := by omega
                  have hy9 : ¬ (9 : Int) < (y : Int) := by omega
                  have hlay' : ¬ (y : Int) ≤ la := by omega
                  clear hc h1 hbl hr hy hv hla
                  go_wp2
                  go_roundw
                  case rel =>
                    refine ⟨k + 1, by omega, by go_num, by rw [HLA.out], ?_, HBL.out.setCell (p := ⟨w7.heap.size, y, none⟩) (Nat.le_refl _) _⟩
                    rw [HN.out]
                    exact H1.out.set hy10 _
                  case measure => simp [intOf]; omega
                · obtain rfl : ln = k := by omega
                  have hfull : lf.take ln = lf := List.take_of_length_le (by rw [HL.out.len]; exact Nat.le_refl _)
                  rw [hfull] at h1
                  have zz := fun i (hi : i < 10) => (h1.cell hi).trans (by rw [HCZ.out i hi])
                  have a0 := zz 0 (by omega)
                  have a1 := zz 1 (by omega)
                  have a2 := zz 2 (by omega)
                  have a3 := zz 3 (by omega)
                  have a4 := zz 4 (by omega)
                  have a5 := zz 5 (by omega)
                  have a6 := zz 6 (by omega)
                  have a7 := zz 7 (by omega)
                  have a8 := zz 8 (by omega)
                  have a9 := zz 9 (by omega)
                  have heq : ∀ w : World, (binOp .eql 43 (.agg #[I 0, I 0, I 0, I 0, I 0, I 0, I 0, I 0, I 0, I 0]) (.agg #[I 0, I 0, I 0, I 0, I 0, I 0, I 0, I 0, I 0, I 0])).run Try.prog w = .ok (.bool true) w := fun _ => by kernel_rfl
                  have HBF : Hid (Below w.heap.size w wr) := HB7.out.trans (hbl.mono HB7.out.size)
                  clear zz h1 hbl hfull
                  go_wp2
                  all_goals
                    go_ret
                    exact ⟨rfl, HBF.out⟩
  · clear hE
    go_wp2_with fail
    refine HLV2.out.mono ?_
    rintro e w8 ⟨rfl, hb8⟩
    have HB8 : Hid (Below w.heap.size w w8) := HB7.out.trans (hb8.mono HB7.out.size)
    clear hb8
    go_wp2
    go_ret
    exact ⟨rfl, HB8.out⟩

end Go.Proofs.Ytdjdjaegihhmiaa
