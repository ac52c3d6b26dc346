/-
  hedgkeep.HandsFree.
-/
import Derived.Test.YtdjdjaegihhmiaaJRunAll
import Derived.Test.YtdjdjaegihhmiaaJRight
import Derived.Test.YtdjdjaegihhmiaaGInts
import Derived.Test.YtdjdjaegihhmiaaMLivesAll
import Derived.Test.YtdjdjaegihhmiaaJEndP
namespace Go.Proofs.Ytdjdjaegihhmiaa
open Go.RowKit Go.Maps

theorem chk_more {l : List Int} {es : List Sl} {on on' : Nat} (h : chkH l es on = 0) (h5 : on' ≤ 500) : chkH l es on' = 0 := by
  unfold chkH at h ⊢
  split at h
  · cases h
  · rename_i h1
    rw [if_neg (fun hh => h1 (by rcases hh with a | a | a; exact .inl a; exact .inr (.inl a); omega))]
    exact h
theorem ordN_app {nh : Nat} (a b : List Int) : ordN nh (a ++ b) = ordN nh a ++ ordN nh b := by unfold ordN; rw [List.filterMap_append]
theorem ordN_rep {nh : Nat} {x : Int} (h : 0 ≤ x ∧ x < nh) : ∀ k, ordN nh (List.replicate k x) = List.replicate k x.toNat
  | 0 => rfl
  | k + 1 => by
    have := ordN_rep h k
    unfold ordN at this ⊢
    rw [List.replicate_succ, List.filterMap_cons, if_pos h, this, List.replicate_succ]
theorem free_W {P : Nat → PL} {l ord : List Int} {x : Int} {v : Nat} (hx : x.toNat = v) (h : 0 ≤ x ∧ x < (2 : Nat)) : Wend 3 2 P l (ord ++ List.replicate 200 x) = ((Wd.begin_ l).runs aMark (dds P) (fun v => (P v).length) (ordN 2 ord ++ List.replicate 200 v)).rounds aMark (dds P) (fun v => (P v).length) 2 875 := by
  have e : ordN 2 (ord ++ List.replicate 200 x) = ordN 2 ord ++ List.replicate 200 v := by rw [ordN_app, ordN_rep h, hx]
  have e3 : alg 3 = aMark := rfl
  unfold Wend
  rw [e, e3]
theorem tolD_e {W : Wd} {v j b e : Nat} {i : Bool} (h : W.tol v j = some (b, e, i)) : (tolD W v j).e = (e : Int) := by
  unfold tolD
  rw [h]
theorem free_num {e n : Nat} (h : e < n + 200) : 0 ≤ (e : Int) ∧ (e : Int) < (n : Int) + 200 := by omega
theorem free_all {P : Nat → PL} {l ord : List Int} (hd : DOk 2 P l) {who : Int} (hw : 0 ≤ who ∧ who ≤ 1) : ∀ d ∈ Tdl (Wend 3 2 P l (ord ++ List.replicate 200 (1 - who))) 2 (fun v => (P v).length), ¬ ((d.w : Int) = who) → 0 ≤ d.e ∧ d.e < (ord.length : Int) + 200 := by
  intro d hdm hne
  obtain ⟨v, j, hv, hj, rfl⟩ := mem_Tdl.1 hdm
  have hwj := tolD_w (Wend 3 2 P l (ord ++ List.replicate 200 (1 - who))) v j
  obtain ⟨e1, e2⟩ := Prod.mk.inj hwj
  rw [e1] at hne
  have hx : (1 - who).toNat = v := by omega
  obtain ⟨b, e, i, h1, h2, h3⟩ := free_told hd.dees hv (hd.l4 v) hd.ris (ord := ordN 2 ord) ordN_lt 875 hj
  have := ordN_len (nh := 2) (ord := ord)
  have e4 : (tolD (Wend 3 2 P l (ord ++ List.replicate 200 (1 - who))) v j).e = (e : Int) := by rw [free_W hx (by omega)]; exact tolD_e h1
  rw [e4]
  have hlt : e < ord.length + 200 := Nat.lt_of_lt_of_le h3 (Nat.add_le_add_right this 200)
  exact free_num hlt
set_option maxRecDepth 100000 in
set_option maxHeartbeats 16000000 in
theorem free_law (A : Option Addr) (n c : Nat) (l : List Int) (PA : Option Addr) (nh pc : Nat) (es : List Sl) (OA : Option Addr) (on oc : Nat) (ord : List Int) (who : Int) (w : World)
    (h : IS w A n c l) (hn : n ≤ 9223372036854775807) (hP : RS w PA nh pc es) (hnh : nh ≤ 9223372036854775807) (hes : ∀ s ∈ es, s.n ≤ 9223372036854775807) (hO : IS w OA on oc ord) (hon : on ≤ 9223372036854775807) (_hw : (Lit.int .i64 who).wf = true) :
    Calls Try.prog 8 #[.slice A n c, .slice PA nh pc, .slice OA on oc, I who] w fun e w' => e = .returned (.bool true) ∧ Below w.heap.size w w' := by
  have H := Lib.hid h
  have HP := Lib.hid hP
  have HO := Lib.hid hO
  have HOL := Lib.hid hO.len
  have HPL := Lib.hid hP.len
  have HLV := Lib.hid (lives_any w)
  clear h hP hO
  go_enter Try.func8, Try.ntmps8
  go_wp2_with fail
  refine HLV.out.mono ?_
  rintro e w1 ⟨rfl, hb1⟩
  have HB1 := Lib.hid hb1
  have HHR := Lib.hid (right_any 3 A PA OA n c nh pc on oc l es w1 (H.out.below hb1) (HP.out.below hb1) hn hnh hon hes)
  clear hb1
  go_wp2_with fail
  refine HHR.out.mono ?_
  rintro e w2 ⟨rfl, hb2⟩
  have HB2 := Lib.hid (HB1.out.trans (hb2.mono HB1.out.size))
  have HLV2 := Lib.hid (lives_any w2)
  obtain ⟨E, hE⟩ : ∃ E, errR 3 l es on = E := ⟨_, rfl⟩
  rw [hE]
  have HE := Lib.hid hE
  clear hb2 hE
  have hcs : (¬ E = 0) ∨ (E = 0 ∧ ¬ (nh : Int) = 2) ∨ (E = 0 ∧ (nh : Int) = 2 ∧ who < 0) ∨ (E = 0 ∧ (nh : Int) = 2 ∧ ¬ who < 0 ∧ 1 < who) ∨ (E = 0 ∧ (nh : Int) = 2 ∧ ¬ who < 0 ∧ ¬ 1 < who ∧ 60 < (on : Int)) ∨ (E = 0 ∧ (nh : Int) = 2 ∧ ¬ who < 0 ∧ ¬ 1 < who ∧ ¬ 60 < (on : Int)) := by omega
  rcases hcs with h1 | ⟨h1, h2⟩ | ⟨h1, h2, h3⟩ | ⟨h1, h2, h3, h4⟩ | ⟨h1, h2, h3, h4, h5⟩ | ⟨h1, h2, h3, h4, h5⟩
  iterate 5
    · first
        | subst h1
        | skip
      go_wp2_with fail
      refine HLV2.out.mono ?_
      rintro e w3 ⟨rfl, hb3⟩
      have HB3 := Lib.hid (HB2.out.trans (hb3.mono HB2.out.size))
      clear hb3
      go_wp2
      go_ret
      exact ⟨rfl, HB3.out⟩
  · subst h1
    obtain rfl : nh = 2 := by omega
    have hwho : 0 ≤ who ∧ who ≤ 1 := by omega
    have hch : chkH l es on = 0 := by
      have := HE.out
      unfold errR at this
      rw [if_neg (by decide)] at this
      exact this
    have hch2 := chk_more (on' := on + 200) hch (by omega)
    obtain ⟨hdk, _, _⟩ := dok_of PA 2 pc l es w HP.out hch
    have HFA := Lib.hid (free_all (ord := ord) hdk hwho)
    have HCH := Lib.hid hch2
    have on60 : on ≤ 60 := by omega
    have i1 : IntKind.i64.wrap (1 - who) = 1 - who := IntWalk.i64_in _ (by omega)
    clear hch hch2 hdk
    have hsrc := (HO.out.below (HB2.out.trans ((Below.refl w2.heap.size w2).alloc (Nat.le_refl _) (.cells #[] 3) |>.mono HB2.out.size))).src
    have HSRC := Lib.hid hsrc
    clear hsrc
    go_wp2_with (first
      | (at_builtin
         refine wpList_app1 rfl (.tmp 42) (.tmp 43) 22 rfl 3 Try.underlying22 int_info w2.heap.size (.slice (some ⟨w2.heap.size, 0, none⟩) 0 0) [] ord OA on oc rfl rfl (World.ownsRow_made w2 _ 0 (Nat.le_refl _) (by unfold maxLen; omega) (by simp)) HSRC.out (by simp; omega) (by simp) ?_
         intro v3 w3 hown3 hgrow3 hat3
         have HB3 : Hid (Below w2.heap.size w2 w3) := Below.grown ((Below.refl _ _).alloc (Nat.le_refl _) _) hgrow3 (by simp) (by simp [Value.ownBlock])
         rw [List.nil_append] at hown3
         have HO3 := Lib.hid hown3
         clear hown3 hgrow3 hat3)
      | fail)
    go_loopw [9, 45] (fun v iv wr => ∃ (k : Nat) (x : Value), k ≤ 200 ∧ iv = .int .i64 k ∧ x = v ∧ OwnI wr w2.heap.size x (ord ++ List.replicate k (1 - who)) ∧ Below w2.heap.size w2 wr) (fun _ iv _ => 200 - (intOf iv).toNat)
    case atStart =>
      refine ⟨0, v3, Nat.zero_le _, rfl, rfl, ?_, HB3.out⟩
      show OwnI w3 w2.heap.size v3 (ord ++ [])
      rw [List.append_nil]
      exact HO3.out
    case round =>
      obtain ⟨k, v, hk, rfl, rfl, hown, hbl⟩ := hrel
      have HOWN := Lib.hid hown
      have HBL := Lib.hid hbl
      by_cases hlt : k < 200
      · have hk200 : (k : Int) < 200 := by omega
        clear hown hbl
        go_wp2_with (first
          | (at_builtin
             refine wpList_app1 rfl (.tmp 47) (.tmp 50) 22 rfl 3 Try.underlying22 int_info w2.heap.size v (ord ++ List.replicate k (1 - who)) [1 - who] (some ⟨wr.heap.size, 0, none⟩) 1 1 rfl rfl (own_below HOWN.out ((Below.refl _ _).alloc (Nat.le_refl _) _)) (srcI_one wr (1 - who)) (by have := HOL.out; simp; omega) (by have := HBL.out.size; simp; omega) ?_
             intro v4 w4 hown4 hgrow4 hat4
             have HB4 : Hid (Below w2.heap.size w2 w4) := (HBL.out.alloc HBL.out.size _).grown hgrow4 (by have := HBL.out.size; simp; omega) (own_ge1 HOWN.out)
             have HO4 := Lib.hid hown4
             clear hown4 hgrow4 hat4)
          | fail)
        go_roundw
        case rel =>
          refine ⟨k + 1, v4, by omega, by go_num, rfl, ?_, HB4.out⟩
          rw [List.replicate_succ', ← List.append_assoc]
          exact HO4.out
        case measure => simp [intOf]; omega
      · obtain rfl : k = 200 := by omega
        obtain ⟨A3, c3, rfl, his, -⟩ := hown.is_
        have hlen : (ord ++ List.replicate 200 (1 - who)).length = on + 200 := by rw [List.length_append, List.length_replicate, HOL.out]
        rw [hlen] at his
        rw [hlen]
        have HR := Lib.hid (run_all A PA A3 n c 2 pc (on + 200) c3 l (ord ++ List.replicate 200 (1 - who)) es wr 3 (by decide) (H.out.below (HB2.out.trans (hbl.mono HB2.out.size))) (HP.out.below (HB2.out.trans (hbl.mono HB2.out.size))) his hn (by omega) (by omega) hes)
        have HBW : Hid (Below w.heap.size w wr) := HB2.out.trans (hbl.mono HB2.out.size)
        clear hown hbl HOWN his hlen
        go_wp2_with fail
        refine HR.out.mono ?_
        rintro e w6 ⟨dA, lA, dn, dc, ln, lc, E, rfl, hb6, hne, hE⟩
        have hE0 : E = 0 := Classical.byContradiction fun h0 => by
          rcases (hne h0).2 with h | h
          · exact h (by decide)
          · exact h HCH.out
        subst hE0
        obtain ⟨al, hal, -, -, m, -, hD, -⟩ := hE rfl
        obtain rfl : al = 3 := by omega
        have HD := Lib.hid hD
        have HB6 : Hid (Below w.heap.size w w6) := HBW.out.trans (hb6.mono HBW.out.size)
        obtain ⟨L, hLd⟩ : ∃ L, Tdl (Wend 3 2 (prog0 es) l (ord ++ List.replicate 200 (1 - who))) 2 (fun v => (prog0 es v).length) = L := ⟨_, rfl⟩
        rw [hLd] at HFA HD
        have hdn : dn < 1000000 := by
          rw [← HD.out.len, ← hLd]
          obtain ⟨hdk, _, _⟩ := dok_of PA 2 pc l es w HP.out HCH.out
          have := tdl_len (W := Wend 3 2 (prog0 es) l (ord ++ List.replicate 200 (1 - who))) hdk.l4 2
          omega
        clear hb6 hne hE hD hal hLd
        go_wp2
        go_loopw [68] (fun iv wr => ∃ k : Nat, k ≤ dn ∧ iv = .int .i64 k ∧ Below w6.heap.size (w6.alloc (.cells #[.slice dA dn dc, .slice lA ln lc] 26)) wr) (fun iv _ => dn - (intOf iv).toNat)
        case atStart => exact ⟨0, Nat.zero_le _, rfl, (Below.refl _ _)⟩
        case round =>
          obtain ⟨k, hk, rfl, hbl⟩ := hrel
          have HBL := Lib.hid hbl
          by_cases hlt : k < dn
          · obtain ⟨g, rfl, hg, hc⟩ := HD.out.at_ (by omega)
            have hkl : k < L.length := by rw [HD.out.len]; exact hlt
            have hfa := HFA.out _ (List.getElem_mem hkl)
            have hDk := hc k hkl
            obtain ⟨⟨dw, dj, db, de, di⟩, hd⟩ : ∃ d, L[k] = d := ⟨_, rfl⟩
            rw [hd] at hfa hDk
            have hlow : ∀ (p : Addr), p.block < w6.heap.size → wr.cell? p = w6.cell? p := fun p hp => (hbl.cell hp).trans (World.cell?_of_block (Below.heap_alloc _ _ _ hp))
            have D0 : wr.cell? ⟨g, k * 5, none⟩ = some (I dw) := (hlow ⟨g, k * 5, none⟩ hg).trans (hDk 0 (by omega))
            have D1 : wr.cell? ⟨g, k * 5 + 1, none⟩ = some (I dj) := (hlow ⟨g, k * 5 + 1, none⟩ hg).trans (hDk 1 (by omega))
            have D2 : wr.cell? ⟨g, k * 5 + 2, none⟩ = some (I db) := (hlow ⟨g, k * 5 + 2, none⟩ hg).trans (hDk 2 (by omega))
            have D3 : wr.cell? ⟨g, k * 5 + 3, none⟩ = some (I de) := (hlow ⟨g, k * 5 + 3, none⟩ hg).trans (hDk 3 (by omega))
            have D4 : wr.cell? ⟨g, k * 5 + 4, none⟩ = some (.bool di) := (hlow ⟨g, k * 5 + 4, none⟩ hg).trans (hDk 4 (by omega))
            have HN : Hid (∀ o, Below w6.heap.size (w6.alloc (.cells #[.slice (some ⟨g, 0, none⟩) dn dc, .slice lA ln lc] 26)) (wr.alloc o)) := fun o => HBL.out.alloc (by have := HBL.out.size; rw [World.size_alloc] at this; omega) _
            clear hc hbl hDk hd hlow hkl
            by_cases hq : (dw : Int) = who
            · have hqb : ((dw : Int) != who) = false := by simp [hq]
              clear hfa
              go_wp2
              go_roundw
              case rel => exact ⟨k + 1, by omega, by go_num, HN.out _⟩
              case measure => simp [intOf]; omega
            · have hqb : ((dw : Int) != who) = true := by simp [hq]
              obtain ⟨he0, he1⟩ := hfa hq
              have he0 : (0 : Int) ≤ de := he0
              have he1 : de < (on : Int) + 200 := by rw [← HOL.out]; exact he1
              have he2 : ¬ de < 0 := by omega
              have he3 : ¬ (((on + 200 : Nat)) : Int) ≤ de := by omega
              have he4 : ¬ ((on : Int) + 200) ≤ de := by omega
              go_wp2
              go_roundw
              case rel => exact ⟨k + 1, by omega, by go_num, HN.out _⟩
              case measure => simp [intOf]; omega
          · obtain rfl : dn = k := by omega
            have HBF : Hid (Below w.heap.size w wr) := HB6.out.trans (((Below.refl w6.heap.size w6).alloc (Nat.le_refl _) (.cells #[.slice dA dn dc, .slice lA ln lc] 26) |>.trans hbl).mono HB6.out.size)
            clear hbl
            go_wp2
            all_goals
              go_ret
              exact ⟨rfl, HBF.out⟩

end Go.Proofs.Ytdjdjaegihhmiaa
