/-
  hedgref.HandsRight.
-/
import Derived.Test.YtdjdjaegihhmiaaJKey
namespace Go.Proofs.Ytdjdjaegihhmiaa
open Go.RowKit Go.Maps

/-- the last of them so far -/
def rl (l : List Int) (k : Nat) : Int := if k = 0 then -1 else l[k - 1]?.getD 0
theorem rist_down {l : List Int} {k : Nat} (h : RisT l (k + 1)) : RisT l k := ⟨fun i hi hk => h.1 i hi (by omega), fun i hi hk => h.2 i hi (by omega)⟩
theorem rl_bd {l : List Int} {k : Nat} (hk : k ≤ l.length) (h : RisT l k) : -1 ≤ rl l k ∧ rl l k ≤ 9 := by
  unfold rl
  split
  · omega
  · have h1 : k - 1 < l.length := by omega
    rw [List.getElem?_eq_getElem h1, Option.getD_some]
    have := h.1 (k - 1) h1 (by omega)
    omega
theorem rl_next {l : List Int} {k : Nat} (hk : k < l.length) : rl l (k + 1) = l[k] := by
  unfold rl
  rw [if_neg (by omega), Nat.add_sub_cancel, List.getElem?_eq_getElem hk, Option.getD_some]
theorem rist_next {l : List Int} {k : Nat} (hk : k < l.length) (h : RisT l k) : RisT l (k + 1) ↔ (rl l k + 1 ≤ l[k] ∧ l[k] ≤ 9) := by
  constructor
  · intro h'
    refine ⟨?_, (h'.1 k hk (by omega)).2⟩
    unfold rl
    split
    · have := (h'.1 k hk (by omega)).1
      omega
    · rename_i h0
      have h1 : k - 1 < l.length := by omega
      rw [List.getElem?_eq_getElem h1, Option.getD_some]
      have := h'.2 (k - 1) (by omega) (by omega)
      have e : k - 1 + 1 = k := by omega
      simp only [e] at this
      omega
  · rintro ⟨h1, h2⟩
    have hb := rl_bd (Nat.le_of_lt hk) h
    refine ⟨fun i hi hik => ?_, fun i hi hik => ?_⟩
    · by_cases e : i = k
      · subst e; omega
      · exact h.1 i hi (by omega)
    · by_cases e : i + 1 = k
      · subst e
        have : rl l (i + 1) = l[i] := rl_next (by omega)
        omega
      · exact h.2 i hi (by omega)
theorem ris_t {l : List Int} : RisT l l.length ↔ Ris l := ⟨ris_of, fun h => ⟨fun i hi _ => (ris_at h hi).1, fun i hi _ => (ris_at h (by omega : i < l.length)).2 hi⟩⟩
/-- what HandsRight answers -/
def errR (algo : Int) (l : List Int) (es : List Sl) (on : Nat) : Int := if ¬ (1 ≤ algo ∧ algo ≤ 4) then 1 else chkH l es on
theorem errR_is {algo : Int} {l : List Int} {es : List Sl} {on : Nat} {g f b : Bool} (hg : ((decide (4 < es.length) || decide (500 < on)) || es.any lng) = g) {F0 : Bool} (h0 : F0 = true ↔ Ris l) (hf : (F0 && !es.any (fun s => s.L.any dbad)) = f) (hb : (decide (1 ≤ algo) && decide (algo ≤ 4)) = b) :
    errR algo l es on = if b = false then 1 else if g = true then 2 else if f = false then 3 else 0 := by
  have hC : (4 < es.length ∨ es.any lng = true ∨ 500 < on) ↔ g = true := by
    rw [← hg]
    simp only [Bool.or_eq_true, decide_eq_true_eq]
    constructor
    · rintro (h | h | h)
      · exact .inl (.inl h)
      · exact .inr h
      · exact .inl (.inr h)
    · rintro ((h | h) | h)
      · exact .inl h
      · exact .inr (.inr h)
      · exact .inr (.inl h)
  have hA : (¬ (1 ≤ algo ∧ algo ≤ 4)) ↔ b = false := by
    rw [← hb]
    by_cases h1 : 1 ≤ algo <;> by_cases h2 : algo ≤ 4 <;> simp [h1, h2]
  have hR : (¬ Ris l) ↔ F0 = false := by
    rw [← h0]
    cases F0 <;> simp
  unfold errR chkH
  simp only [hC, hA, hR]
  subst hf
  cases b <;> cases g <;> cases F0 <;> cases es.any (fun s => s.L.any dbad) <;> rfl
theorem any_next {α : Type} {p : α → Bool} {l : List α} {k : Nat} (hk : k < l.length) : (l.take (k + 1)).any p = ((l.take k).any p || p l[k]) := by
  rw [List.take_succ_eq_append_getElem hk, List.any_append]
  simp
set_option maxRecDepth 100000 in
set_option maxHeartbeats 16000000 in
theorem right_any (algo : Int) (A PA OA : Option Addr) (n c nh pc on oc : Nat) (l : List Int) (es : List Sl) (w : World) (h : IS w A n c l) (hP : RS w PA nh pc es) (hn : n ≤ 9223372036854775807) (hnh : nh ≤ 9223372036854775807) (hon : on ≤ 9223372036854775807) (hes : ∀ s ∈ es, s.n ≤ 9223372036854775807) :
    Calls Try.prog 10 #[I algo, .slice A n c, .slice PA nh pc, .slice OA on oc] w fun e w' => e = .returned (I (errR algo l es on)) ∧ Below w.heap.size w w' := by
  have H := Lib.hid h
  have HP := Lib.hid hP
  have HL := Lib.hid h.len
  have HPL := Lib.hid hP.len
  have HES := Lib.hid hes
  have HG : Hid ((decide (4 < (nh : Int)) || decide (500 < (on : Int))) = (decide (4 < es.length) || decide (500 < on))) := by
    show _ = _
    rw [hP.len]
    congr 1 <;> (apply decide_eq_decide.mpr; omega)
  clear h hP hes
  have HB := Lib.hid (fun wq => jbetween_any algo 1 4 wq rfl)
  have h4c : (4 < (nh : Int)) ∨ ¬ (4 < (nh : Int)) := by omega
  rcases h4c with h4 | h4
  all_goals
    go_enter Try.func10, Try.ntmps10
    go_wp2
    go_loopw [10, 11, 28] (fun fo la iv wr => ∃ (k : Nat) (f : Bool), k ≤ n ∧ iv = .int .i64 k ∧ fo = .bool f ∧ la = .int .i64 (rl l k) ∧ Hid (f = true ↔ RisT l k) ∧ wr = w) (fun _ _ iv _ => n - (intOf iv).toNat)
    case atStart => exact ⟨0, true, Nat.zero_le _, rfl, rfl, rfl, ⟨fun _ => ⟨fun i _ hi => absurd hi (by omega), fun i _ hi => absurd hi (by omega)⟩, fun _ => rfl⟩, rfl⟩
    case round =>
      obtain ⟨k, f, hk, rfl, rfl, rfl, HF, rfl⟩ := hrel
      by_cases hlt : k < n
      · obtain ⟨b, off, rfl, hb, hc⟩ := H.out.at_ (by omega)
        have hkl : k < l.length := by rw [HL.out]; exact hlt
        have hck : wr.cell? ⟨b, off + k, none⟩ = some (I l[k]) := hc k hlt
        have HRN := Lib.hid (rl_next hkl)
        cases f with
        | false =>
          have HN : Hid (false = true ↔ RisT l (k + 1)) := ⟨fun h => (by cases h), fun h => HF.out.2 (rist_down h)⟩
          obtain ⟨x, hx⟩ : ∃ x, l[k] = x := ⟨_, rfl⟩
          rw [hx] at hck HRN
          clear hc hx
          go_wp2
          go_roundw
          case rel => exact ⟨k + 1, false, by omega, by go_num, rfl, by rw [HRN.out], HN, by first | rfl | trivial⟩
          case measure => simp [intOf]; omega
        | true =>
          have hrt := HF.out.1 rfl
          have hbd := rl_bd (Nat.le_of_lt hkl) hrt
          have hnx := rist_next hkl hrt
          obtain ⟨x, hx⟩ : ∃ x, l[k] = x := ⟨_, rfl⟩
          obtain ⟨y, hy⟩ : ∃ y, rl l k = y := ⟨_, rfl⟩
          rw [hx] at hck hnx HRN
          rw [hy] at hbd hnx
          obtain ⟨bb, hbb⟩ : ∃ bb, (decide (y + 1 ≤ x) && decide (x ≤ 9)) = bb := ⟨_, rfl⟩
          have HN : Hid (bb = true ↔ RisT l (k + 1)) := by
            show _ ↔ _
            rw [hnx, ← hbb]
            simp
          have i1 : IntKind.i64.wrap (y + 1) = y + 1 := IntWalk.i64_in _ (by omega)
          have HBB := Lib.hid (jbetween_any x (y + 1) 9 wr hbb)
          rw [hy]
          clear hc hx hrt hnx hbb hy
          go_wp2_with fail
          refine HBB.out.mono ?_
          rintro e w1 ⟨rfl, hw1⟩
          have hw2 := hw1.symm
          subst hw2
          go_wp2
          go_roundw
          case rel => exact ⟨k + 1, bb, by omega, by go_num, rfl, by rw [HRN.out], HN, by first | rfl | trivial⟩
          case measure => simp [intOf]; omega
      · obtain rfl : n = k := by omega
        have HF0 : Hid (f = true ↔ Ris l) := by
          have := HF.out
          rw [← HL.out, ris_t] at this
          exact this
        go_wp2
        obtain ⟨wo, hwo⟩ : ∃ wo, wo = wr := ⟨_, rfl⟩
        subst hwo
        go_loopw [9, 10, 43] (fun la fo iv wr => ∃ (k : Nat) (g f' : Bool), k ≤ nh ∧ iv = .int .i64 k ∧ la = .bool g ∧ fo = .bool f' ∧ Hid (((decide (4 < es.length) || decide (500 < on)) || (es.take k).any lng) = g) ∧ Hid ((f && !(es.take k).any fun s => s.L.any dbad) = f') ∧ Below wo.heap.size wo wr) (fun _ _ iv _ => nh - (intOf iv).toNat)
        case atStart => exact ⟨0, _, _, Nat.zero_le _, rfl, rfl, rfl, Lib.hid (by rw [← HG.out, List.take_zero, List.any_nil, Bool.or_false]; first | (rw [show decide (4 < (nh : Int)) = true from decide_eq_true (by omega)]; rfl) | (rw [show decide (4 < (nh : Int)) = false from decide_eq_false (by omega)]; rfl)), Lib.hid (by simp), Below.refl _ _⟩
        case round =>
          obtain ⟨k, g, f', hk, rfl, rfl, rfl, HGK, HFK, hbl⟩ := hrel
          have HBL := Lib.hid hbl
          by_cases hlt : k < nh
          · obtain ⟨b, off, rfl, hb, hc⟩ := HP.out.at_ (by omega)
            have hkl : k < es.length := by rw [HPL.out]; exact hlt
            have hck : wr.cell? ⟨b, off + k, none⟩ = some es[k].val := (hbl.cell (by exact hb)).trans (hc k hlt)
            have hps : PS wr es[k].A es[k].n es[k].c es[k].L := PS.below (HP.out.each _ (List.getElem_mem hkl)) hbl
            have hsn := HES.out _ (List.getElem_mem hkl)
            have hng := any_next (p := lng) hkl
            have hnf := any_next (p := fun s : Sl => s.L.any dbad) hkl
            obtain ⟨⟨sA, sn, sc, sL⟩, hsv⟩ : ∃ s, es[k] = s := ⟨_, rfl⟩
            rw [hsv] at hck hps hsn hng hnf
            replace hck : wr.cell? ⟨b, off + k, none⟩ = some (.slice sA sn sc) := hck
            have hps : PS wr sA sn sc sL := hps
            have hsn : sn ≤ 9223372036854775807 := hsn
            have HPS := Lib.hid hps
            have hsl : sL.length = sn := hps.len
            have HSL := Lib.hid hsl
            have HGN : Hid (((decide (4 < es.length) || decide (500 < on)) || (es.take (k + 1)).any lng) = (g || decide (4 < (sn : Int)))) := by
              show _ = _
              rw [hng, ← Bool.or_assoc, HGK.out]
              congr 1
              apply decide_eq_decide.mpr
              show 4 < sn ↔ _
              omega
            have HFN : Hid ((f && !(es.take (k + 1)).any fun s => s.L.any dbad) = (f' && !sL.any dbad)) := by
              show _ = _
              rw [hnf, Bool.not_or, ← Bool.and_assoc, HFK.out]
            clear hc hbl hps hsl hng hnf hsv
            cases g
            all_goals
              go_wp2
              obtain ⟨ws, hws⟩ : ∃ ws, ws = wr := ⟨_, rfl⟩
              subst hws
              go_loopw [10, 55] (fun fo iv wr => ∃ (j : Nat) (f2 : Bool), j ≤ sn ∧ iv = .int .i64 j ∧ fo = .bool f2 ∧ Hid ((f' && !(sL.take j).any dbad) = f2) ∧ Below ws.heap.size ws wr) (fun _ iv _ => sn - (intOf iv).toNat)
              case atStart => exact ⟨0, _, Nat.zero_le _, rfl, rfl, Lib.hid (by simp), Below.refl _ _⟩
              case round =>
                obtain ⟨j, f2, hj, rfl, rfl, HF2, hbq⟩ := hrel
                have HBQ := Lib.hid hbq
                by_cases hjl : j < sn
                · obtain ⟨sb, soff, rfl, hsb, hsc⟩ := HPS.out.at_ (by omega)
                  have hjs : j < sL.length := by rw [HSL.out]; exact hjl
                  have hq := hsc j hjl
                  have hnx := any_next (p := dbad) hjs
                  obtain ⟨⟨kd, K⟩, hkK⟩ : ∃ q, sL[j] = q := ⟨_, rfl⟩
                  rw [hkK] at hq hnx
                  have q1 : wr.cell? ⟨sb, soff + j * 2, none⟩ = some (I kd) := (hbq.cell (p := ⟨sb, _, none⟩) hsb).trans hq.1
                  have q2 : wr.cell? ⟨sb, soff + j * 2 + 1, none⟩ = some (I K) := (hbq.cell (p := ⟨sb, soff + j * 2 + 1, none⟩) hsb).trans hq.2
                  have q2' : wr.cell? ⟨sb, soff + (j * 2 + 1), none⟩ = some (I K) := q2
                  have HA : Hid (Below ws.heap.size ws (wr.alloc (.cells #[I kd, I K] 42))) := hbq.alloc hbq.size _
                  have HNX : Hid ((f' && !(sL.take (j + 1)).any dbad) = (f2 && !dbad (kd, K))) := by
                    show _ = _
                    rw [hnx, Bool.not_or, ← Bool.and_assoc, HF2.out]
                  clear hq hsc hbq hnx hkK
                  cases f2 with
                  | false =>
                    go_wp2
                    go_roundw
                    case rel => exact ⟨j + 1, false, by omega, by go_num, rfl, Lib.hid (by rw [HNX.out]; rfl), HA.out⟩
                    case measure => simp [intOf]; omega
                  | true =>
                    obtain ⟨b1, hb1⟩ : ∃ b1, (decide (1 ≤ kd) && decide (kd ≤ 3)) = b1 := ⟨_, rfl⟩
                    obtain ⟨b2, hb2⟩ : ∃ b2, (decide (0 ≤ K) && decide (K ≤ 9)) = b2 := ⟨_, rfl⟩
                    have HDB : Hid ((!dbad (kd, K)) = (b1 && b2)) := by
                      show _ = _
                      rw [← hb1, ← hb2]
                      unfold dbad
                      by_cases a1 : 1 ≤ kd <;> by_cases a2 : kd ≤ 3 <;> by_cases a3 : 0 ≤ K <;> by_cases a4 : K ≤ 9 <;> simp [a1, a2, a3, a4] <;> omega
                    have HC1 := Lib.hid (jbetween_any kd 1 3 (wr.alloc (.cells #[I kd, I K] 42)) hb1)
                    have HC2 := Lib.hid (jbetween_any K 0 9 (wr.alloc (.cells #[I kd, I K] 42)) hb2)
                    clear hb1 hb2
                    cases b1 with
                    | false =>
                      go_wp2_with fail
                      refine HC1.out.mono ?_
                      rintro e w1 ⟨rfl, rfl⟩
                      go_wp2
                      go_roundw
                      case rel => exact ⟨j + 1, false, by omega, by go_num, rfl, Lib.hid (by rw [HNX.out, HDB.out]; rfl), HA.out⟩
                      case measure => simp [intOf]; omega
                    | true =>
                      go_wp2_with fail
                      refine HC1.out.mono ?_
                      rintro e w1 ⟨rfl, rfl⟩
                      go_wp2_with fail
                      refine HC2.out.mono ?_
                      rintro e w2 ⟨rfl, rfl⟩
                      go_wp2
                      go_roundw
                      case rel => exact ⟨j + 1, b2, by omega, by go_num, rfl, Lib.hid (by rw [HNX.out, HDB.out]; simp), HA.out⟩
                      case measure => simp [intOf]; omega
                · obtain rfl : sn = j := by omega
                  have HBO := Lib.hid (HBL.out.trans (hbq.mono HBL.out.size))
                  have hfull : sL.take sn = sL := List.take_of_length_le (by rw [HSL.out]; exact Nat.le_refl _)
                  rw [hfull] at HF2
                  clear hbq hfull
                  go_wp2
                  go_roundw
                  case rel => exact ⟨k + 1, _, f2, by omega, by go_num, rfl, rfl, Lib.hid (by rw [HGN.out]; simp), Lib.hid (by rw [HFN.out]; exact HF2.out), HBO.out⟩
                  case measure => simp [intOf]; omega
          · obtain rfl : nh = k := by omega
            have hfull : es.take nh = es := List.take_of_length_le (by rw [HPL.out]; exact Nat.le_refl _)
            rw [hfull] at HGK HFK
            have HE := fun b hb => Lib.hid (errR_is (algo := algo) HGK.out HF0.out HFK.out (b := b) hb)
            obtain ⟨b, hb⟩ : ∃ b, (decide (1 ≤ algo) && decide (algo ≤ 4)) = b := ⟨_, rfl⟩
            have HE := HE b hb
            have HC := Lib.hid (jbetween_any algo 1 4 wr hb)
            clear hbl hb hfull HB
            cases b with
            | false =>
              go_wp2_with fail
              refine HC.out.mono ?_
              rintro e w1 ⟨rfl, hw1⟩
              have hw2 := hw1.symm
              subst hw2
              go_wp2
              go_ret
              exact ⟨ret_int (by rw [HE.out]; simp), HBL.out⟩
            | true =>
              go_wp2_with fail
              refine HC.out.mono ?_
              rintro e w1 ⟨rfl, hw1⟩
              have hw2 := hw1.symm
              subst hw2
              cases g with
              | true =>
                go_wp2
                go_ret
                exact ⟨ret_int (by rw [HE.out]; simp), HBL.out⟩
              | false =>
                cases f' with
                | false =>
                  go_wp2
                  go_ret
                  exact ⟨ret_int (by rw [HE.out]; simp), HBL.out⟩
                | true =>
                  go_wp2
                  go_ret
                  exact ⟨ret_int (by rw [HE.out]; simp), HBL.out⟩

end Go.Proofs.Ytdjdjaegihhmiaa
