/-
  Joined texts: YtolgncaaffmmnaaDoorApp, YtolgncaaffmmnaaDoorDonePure.
-/
import Derived.Test.YtolgncaaffmmnaaDoorWithoutAll
import Derived.Test.YtolgncaaffmmnaaDoorAppPAll
import Derived.Maps.AppendAt
import Derived.Deep.RegionLaw
/-
  append onto a row of pairs of the call's own, as one step of a region that draws its order.
-/
namespace Go.Proofs.YtolgncaaffmmnaaDoor
open Go.RowKit

/-- a pair, boxed -/
def BB (w : World) (g : Nat) (k v : Int) : Prop := w.heap[g]? = some (.cells #[I k, I v] 87 (0, 0))

theorem BB.lt {w : World} {g : Nat} {k v : Int} (h : BB w g k v) : g < w.heap.size := by
  rcases Nat.lt_or_ge g w.heap.size with hlt | hge
  · exact hlt
  · unfold BB at h; rw [Array.getElem?_eq_none hge] at h; cases h
theorem BB.src {w : World} {g : Nat} {k v : Int} (h : BB w g k v) : Src w (some ⟨g, 0, none⟩) 1 [(k, v)] := by
  refine ⟨rfl, fun _ => ⟨_, rfl, fun j u hu => ?_⟩⟩
  rw [addn, cell_of_row _ _ _ _ _ _ h]
  simpa [flat] using hu
theorem BB.grown {w w' : World} {g : Nat} {k v : Int} {row : Option Nat} (h : BB w g k v) (hg : w.grownBy w' row) (hne : some g ≠ row) : BB w' g k v := (hg.block g h.lt hne).trans h
theorem BB.new (w : World) (k v : Int) : BB (w.alloc (.cells #[I k, I v] 87)) w.heap.size k v := heap_alloc_new w _
theorem BB.alloc {w : World} {g : Nat} {k v : Int} (h : BB w g k v) (o : Obj) : BB (w.alloc o) g k v := (Below.heap_alloc w o g h.lt).trans h

abbrev emO : Obj := .cells #[] 87
abbrev prO (k v : Int) : Obj := .cells #[I k, I v] 87
theorem own_empty {w : World} {B g : Nat} (h : w.heap[g]? = some emO) (hB : B ≤ g) : w.ownsRow B 87 2 (.slice (some ⟨g, 0, none⟩) 0 0) ([] : PL).length (flat []) :=
  ⟨rfl, .inr ⟨g, 0, #[], rfl, hB, h, Nat.le_refl _, Nat.zero_le _, rfl, rfl⟩⟩
theorem heap_two (w : World) (a b : Obj) : ((w.alloc a).alloc b).heap[w.heap.size]? = some a ∧ ((w.alloc a).alloc b).heap[w.heap.size + 1]? = some b := by
  refine ⟨?_, ?_⟩
  · have h1 := heap_alloc_new w a
    have h2 := Below.heap_alloc (w.alloc a) b w.heap.size (by simp)
    rw [h2]; exact h1
  · have h1 := heap_alloc_new (w.alloc a) b
    simpa using h1
/-- the three ways in which the new blocks may come -/
theorem way1 (w : World) : (w.alloc emO).drew.ownsRow w.heap.size 87 2 (.slice (some ⟨w.heap.size, 0, none⟩) 0 0) ([] : PL).length (flat []) ∧ Below w.heap.size w (w.alloc emO).drew :=
  ⟨own_empty (w := (w.alloc emO).drew) (heap_alloc_new w _) (Nat.le_refl _), ((Below.refl _ _).alloc (Nat.le_refl _) _).drew⟩
theorem way2 (w : World) (k v : Int) : ((w.alloc emO).alloc (prO k v)).drew.ownsRow w.heap.size 87 2 (.slice (some ⟨w.heap.size, 0, none⟩) 0 0) ([] : PL).length (flat []) ∧ Below w.heap.size w ((w.alloc emO).alloc (prO k v)).drew ∧ BB ((w.alloc emO).alloc (prO k v)).drew (w.heap.size + 1) k v :=
  ⟨own_empty (w := ((w.alloc emO).alloc (prO k v)).drew) (heap_two w _ _).1 (Nat.le_refl _), (((Below.refl _ _).alloc (Nat.le_refl _) _).alloc (by simp) _).drew, (heap_two w _ _).2⟩
theorem way3 (w : World) (k v : Int) : ((w.alloc (prO k v)).alloc emO).drew.ownsRow w.heap.size 87 2 (.slice (some ⟨w.heap.size + 1, 0, none⟩) 0 0) ([] : PL).length (flat []) ∧ Below w.heap.size w ((w.alloc (prO k v)).alloc emO).drew ∧ BB ((w.alloc (prO k v)).alloc emO).drew w.heap.size k v :=
  ⟨own_empty (w := ((w.alloc (prO k v)).alloc emO).drew) (heap_two w _ _).2 (by omega), (((Below.refl _ _).alloc (Nat.le_refl _) _).alloc (by simp) _).drew, (heap_two w _ _).1⟩

theorem own_mono {w : World} {B B' e s n : Nat} {v : Value} {xs : List Value} (h : w.ownsRow B e s v n xs) (hB : B' ≤ B) : w.ownsRow B' e s v n xs := by
  refine ⟨h.1, ?_⟩
  rcases h.2 with h0 | ⟨g, cap, cur, h1, h2, h3⟩
  · exact .inl h0
  · exact .inr ⟨g, cap, cur, h1, by omega, h3⟩
/-- what With makes -/
def wiL (l : PL) (key val : Int) : PL := (wo l key).take (blw (wo l key) key) ++ [(key, val)] ++ (wo l key).drop (blw (wo l key) key)

set_option maxRecDepth 100000 in
set_option maxHeartbeats 4000000 in
theorem With_any (A : Option Addr) (n c : Nat) (l : PL) (key val : Int) (w : World) (h : PS w A n c l) (hn : n ≤ 1000) :
    Calls Tryd.prog 54 #[.slice A n c, .agg #[I key, I val]] w fun e w' => ∃ v, e = .returned v ∧ OwnP w' w.heap.size v (wiL l key val) ∧ Below w.heap.size w w' := by
  have H := Lib.hid h
  have Hlen := Lib.hid h.len
  clear h
  go_enter Tryd.func54, Tryd.ntmps54
  go_wp2_with fail
  refine (Without_any A n c l key _ (H.out.alloc _) (by omega)).mono ?_
  rintro e w1 ⟨v1, rfl, hown, hb⟩
  obtain ⟨A1, c1, rfl, hps, hfr⟩ := hown.ps
  have hwl : (wo l key).length ≤ n := by rw [← Hlen.out]; exact wo_len _ _
  have hpb : BB w1 w.heap.size key val := (hb.block _ (by simp)).trans (heap_alloc_new w _)
  have HBW1 : Hid (Below w.heap.size w w1) := below_step (Below.refl _ _) hb
  have x0 : w1.cell? ⟨w.heap.size, 0, none⟩ = some (I key) := by unfold BB at hpb; simp [World.cell?, hpb]
  have HPB := Lib.hid hpb
  have HPS := Lib.hid hps
  clear hown hb hps hfr hpb
  go_wp2_with fail
  refine (Below_any A1 _ c1 (wo l key) key _ HPS.out (by omega)).mono ?_
  rintro e w2 ⟨rfl, hb⟩
  have hpb : BB w2 w.heap.size key val := (hb.block _ HPB.out.lt).trans HPB.out
  have y0 : w2.cell? ⟨w.heap.size, 0, none⟩ = some (I key) := by unfold BB at hpb; simp [World.cell?, hpb]
  have y1 : w2.cell? ⟨w.heap.size, 1, none⟩ = some (I val) := by unfold BB at hpb; simp [World.cell?, hpb]
  have yz := hpb.lt
  have HBW2 := Lib.hid (below_next HBW1.out hb)
  have HPS2 := Lib.hid (HPS.out.below hb)
  have hpl : blw (wo l key) key ≤ (wo l key).length := blw_le _ _
  have HWI : Hid (wiL l key val = (wo l key).take (blw (wo l key) key) ++ [(key, val)] ++ (wo l key).drop (blw (wo l key) key)) := rfl
  generalize blw (wo l key) key = p at *
  generalize hL : wo l key = L at *
  clear hL
  have hlc : L.length ≤ c1 := HPS2.out.rd.1
  generalize hn1 : L.length = n1 at *
  have HN1 := Lib.hid hn1
  have hpc : p ≤ c1 := by omega
  clear hb hpb x0 hn1
  go_wp2
  go_region_law (first
    | (refine step_appP rfl (.tmp 14) (.tmp 17) 40 rfl 87 Tryd.underlying40 pair_info w2.heap.size (.slice (some ⟨w2.heap.size, 0, none⟩) 0 0) [] (L.take p) A1 p c1 rfl rfl (way1 w2).1 ((HPS2.out.below (way1 w2).2).srcTake p hpl) (by simp; omega) (way1 w2).2.size ?_
       intro v3 w3 hown3 hgrow3
       have hb3 : Below w2.heap.size w2 w3 := (way1 w2).2.grown hgrow3 (way1 w2).2.size (by simp [Value.ownBlock])
       have s0 : w3.cell? ⟨w.heap.size, 0, none⟩ = some (I key) := (hb3.cell (by exact yz)).trans y0
       have s1 : w3.cell? ⟨w.heap.size, 1, none⟩ = some (I val) := (hb3.cell (by exact yz)).trans y1
       have hz3 : w2.heap.size ≤ w3.heap.size := hb3.size
       have HB3 := Lib.hid hb3
       have HO3 := Lib.hid hown3
       clear hown3 hgrow3 hb3)
    | (refine step_appP rfl (.tmp 14) (.tmp 17) 40 rfl 87 Tryd.underlying40 pair_info w2.heap.size (.slice (some ⟨w2.heap.size, 0, none⟩) 0 0) [] (L.take p) A1 p c1 rfl rfl (way2 w2 key val).1 ((HPS2.out.below (way2 w2 key val).2.1).srcTake p hpl) (by simp; omega) (way2 w2 key val).2.1.size ?_
       intro v3 w3 hown3 hgrow3
       have hb3 : Below w2.heap.size w2 w3 := (way2 w2 key val).2.1.grown hgrow3 (way2 w2 key val).2.1.size (by simp [Value.ownBlock])
       have s0 : w3.cell? ⟨w.heap.size, 0, none⟩ = some (I key) := (hb3.cell (by exact yz)).trans y0
       have s1 : w3.cell? ⟨w.heap.size, 1, none⟩ = some (I val) := (hb3.cell (by exact yz)).trans y1
       have hz3 : w2.heap.size ≤ w3.heap.size := hb3.size
       have HBB := Lib.hid ((way2 w2 key val).2.2.grown hgrow3 (by simp [Value.ownBlock]))
       have HB3 := Lib.hid hb3
       have HO3 := Lib.hid hown3
       clear hown3 hgrow3 hb3)
    | (refine step_appP rfl (.tmp 14) (.tmp 17) 40 rfl 87 Tryd.underlying40 pair_info w2.heap.size (.slice (some ⟨w2.heap.size + 1, 0, none⟩) 0 0) [] (L.take p) A1 p c1 rfl rfl (way3 w2 key val).1 ((HPS2.out.below (way3 w2 key val).2.1).srcTake p hpl) (by simp; omega) (way3 w2 key val).2.1.size ?_
       intro v3 w3 hown3 hgrow3
       have hb3 : Below w2.heap.size w2 w3 := (way3 w2 key val).2.1.grown hgrow3 (way3 w2 key val).2.1.size (by simp [Value.ownBlock])
       have s0 : w3.cell? ⟨w.heap.size, 0, none⟩ = some (I key) := (hb3.cell (by exact yz)).trans y0
       have s1 : w3.cell? ⟨w.heap.size, 1, none⟩ = some (I val) := (hb3.cell (by exact yz)).trans y1
       have hz3 : w2.heap.size ≤ w3.heap.size := hb3.size
       have HBB := Lib.hid ((way3 w2 key val).2.2.grown hgrow3 (by simp [Value.ownBlock]))
       have HB3 := Lib.hid hb3
       have HO3 := Lib.hid hown3
       clear hown3 hgrow3 hb3)
    | (refine step_appP rfl (.tmp 18) (.tmp 20) 40 rfl 87 Tryd.underlying40 pair_info w2.heap.size v3 ([] ++ L.take p) [(key, val)] (some ⟨w3.heap.size, 0, none⟩) 1 1 rfl rfl (HO3.out.alloc _) (BB.new w3 key val).src (by simp; omega) (by simp; omega) ?_
       intro v4 w4 hown4 hgrow4
       have hb4 : Below w2.heap.size w2 w4 := (HB3.out.alloc hz3 _).grown hgrow4 (by simp; omega) (own_ge HO3.out)
       have HB4 := Lib.hid hb4
       have HO4 := Lib.hid hown4
       clear hown4 hgrow4 hb4)
    | (refine step_appP rfl (.tmp 18) (.tmp 20) 40 rfl 87 Tryd.underlying40 pair_info w2.heap.size v3 ([] ++ L.take p) [(key, val)] (some ⟨w2.heap.size + 1, 0, none⟩) 1 1 rfl rfl HO3.out HBB.out.src (by simp; omega) hz3 ?_
       intro v4 w4 hown4 hgrow4
       have hb4 : Below w2.heap.size w2 w4 := HB3.out.grown hgrow4 hz3 (own_ge HO3.out)
       have HB4 := Lib.hid hb4
       have HO4 := Lib.hid hown4
       clear hown4 hgrow4 hb4)
    | (refine step_appP rfl (.tmp 18) (.tmp 20) 40 rfl 87 Tryd.underlying40 pair_info w2.heap.size v3 ([] ++ L.take p) [(key, val)] (some ⟨w2.heap.size, 0, none⟩) 1 1 rfl rfl HO3.out HBB.out.src (by simp; omega) hz3 ?_
       intro v4 w4 hown4 hgrow4
       have hb4 : Below w2.heap.size w2 w4 := HB3.out.grown hgrow4 hz3 (own_ge HO3.out)
       have HB4 := Lib.hid hb4
       have HO4 := Lib.hid hown4
       clear hown4 hgrow4 hb4)
    | (refine step_appP rfl (.tmp 21) (.tmp 24) 40 rfl 87 Tryd.underlying40 pair_info w2.heap.size v4 ([] ++ L.take p ++ [(key, val)]) (L.drop p) (if c1 = p then A1 else Option.map (fun x => x.add (p * 2)) A1) (n1 - p) (c1 - p) rfl rfl HO4.out ((HPS2.out.below HB4.out).srcDrop p hpl _ (fun hlt b off hA => by rw [if_neg (by omega), hA]; simp [addn])) (by simp; omega) HB4.out.size ?_
       intro v5 w5 hown5 hgrow5
       have hb5 : Below w2.heap.size w2 w5 := HB4.out.grown hgrow5 HB4.out.size (own_ge HO4.out)
       have HB5 := Lib.hid hb5
       have HO5 := Lib.hid hown5
       clear hown5 hgrow5 hb5))
  all_goals go_wp2
  all_goals
    go_ret
    refine ⟨v5, rfl, ?_, HBW2.out.trans (HB5.out.mono HBW2.out.size)⟩
    rw [HWI.out]
    exact own_mono HO5.out HBW2.out.size

end Go.Proofs.YtolgncaaffmmnaaDoor

/-
  Done, of a right map.
-/
namespace Go.Proofs.YtolgncaaffmmnaaDoor
open Go.RowKit

theorem find_low (l : PL) (k : Int) : ∀ lo, Srt lo l → k < lo → l.find? (fun p => p.1 == k) = none := by
  induction l with
  | nil => intro lo _ _; rfl
  | cons p t ih =>
    intro lo h hk
    have h1 : (p.1 == k) = false := by have := h.1; simp; omega
    simp only [List.find?_cons, h1]
    exact ih _ h.2.2 (by have := h.1; omega)
theorem find_eq (l : PL) (k : Int) : ∀ lo, Srt lo l → (l.find? fun p => p.1 == k).map (·.2) = getR k l := by
  induction l with
  | nil => intro lo _; rfl
  | cons p t ih =>
    intro lo h
    rw [getR]
    by_cases h1 : p.1 < k
    · have h2 : (p.1 == k) = false := by simp; omega
      simp only [List.find?_cons, h2, if_pos h1]
      exact ih _ h.2.2
    · by_cases h2 : p.1 = k
      · have h3 : (p.1 == k) = true := by simpa using h2
        simp [List.find?_cons, h2]
      · have h3 : (p.1 == k) = false := by simpa using h2
        simp only [List.find?_cons, h3, if_neg h1, if_neg h2]
        rw [find_low t k _ h.2.2 (by omega)]
        rfl
theorem hasV_eq {l : PL} (h : Srt 0 l) (k : Int) : hasV l k = (getR k l).getD 0 := by unfold hasV; rw [find_eq l k 0 h]
theorem hasI_eq {l : PL} (h : Srt 0 l) (k : Int) : hasI l k = (getR k l).isSome := by unfold hasI; rw [← find_eq l k 0 h]; simp
theorem wo_low (l : PL) (k : Int) : ∀ lo, Srt lo l → k < lo → wo l k = l := by
  induction l with
  | nil => intro lo _ _; rfl
  | cons p t ih =>
    intro lo h hk
    have h1 : (p.1 != k) = true := by have := h.1; simp; omega
    unfold wo at *
    simp only [List.filter_cons, h1, if_true]
    rw [ih _ h.2.2 (by have := h.1; omega)]
theorem wo_eq (l : PL) (k : Int) : ∀ lo, Srt lo l → wo l k = delR k l := by
  induction l with
  | nil => intro lo _; rfl
  | cons p t ih =>
    intro lo h
    rw [delR]
    by_cases h1 : p.1 < k
    · have h2 : (p.1 != k) = true := by simp; omega
      rw [if_pos h1, ← ih _ h.2.2]
      unfold wo
      simp only [List.filter_cons, h2, if_true]
    · rw [if_neg h1]
      by_cases h2 : p.1 = k
      · have h3 : (p.1 != k) = false := by simpa using h2
        rw [if_pos h2, ← wo_low t k _ h.2.2 (by omega)]
        unfold wo
        simp [List.filter_cons, h3]
      · rw [if_neg h2]
        exact wo_low (p :: t) k (k + 1) ⟨by omega, h.2⟩ (by omega)
theorem blw_eq (l : PL) (k : Int) : ∀ lo, Srt lo l → blw l k = cnt l k := by
  induction l with
  | nil => intro lo _; rfl
  | cons p t ih =>
    intro lo h
    by_cases h1 : p.1 < k
    · rw [cnt_cons_lt h1, ← ih _ h.2.2]
      simp [blw, List.filter_cons, h1]
    · rw [cnt_cons_ge h1]
      have : ∀ (m : PL) (lo : Int), Srt lo m → k ≤ lo → blw m k = 0 := by
        intro m
        induction m with
        | nil => intro lo _ _; rfl
        | cons q u ihu =>
          intro lo hs hk
          have hq : ¬ q.1 < k := by have := hs.1; omega
          have := ihu _ hs.2.2 (by have := hs.1; omega)
          simp [blw, List.filter_cons, hq] at this ⊢
          exact this
      exact this (p :: t) p.1 ⟨Int.le_refl _, h.2⟩ (by omega)
theorem ins_del_any (l : PL) (k v : Int) : ∀ lo, Srt lo l → insR k v (delR k l) = insR k v l := by
  induction l with
  | nil => intro lo _; rfl
  | cons p t ih =>
    intro lo h
    rw [delR, insR]
    by_cases h1 : p.1 < k
    · rw [if_pos h1, if_pos h1, insR, if_pos h1, ih _ h.2.2]
    · rw [if_neg h1, if_neg h1]
      by_cases h2 : p.1 = k
      · rw [if_pos h2, if_pos h2, ins_low t k v _ h.2.2 (by omega)]
      · rw [if_neg h2, if_neg h2, insR, if_neg h1, if_neg h2]
theorem wiL_eq {l : PL} (h : Srt 0 l) (k v : Int) : wiL l k v = insR k v l := by
  unfold wiL
  have hd := srt_del l k 0 h
  rw [wo_eq l k 0 h, blw_eq _ k 0 hd, ← ins_del_any l k v 0 h, ins_eq, has_iff, get_del l k k 0 h]
  simp

end Go.Proofs.YtolgncaaffmmnaaDoor
