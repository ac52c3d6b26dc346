/-
  shape.All: all trees, sorted.
-/
import Derived.Test.YtconegligedniaaSTrees
import Derived.Test.YtconegligedniaaSCmp
import Derived.Test.YtconegligedniaaSortLay
namespace Go.Proofs.Ytconegligedniaa
open Go.RowKit Go.Sort Go.Shelf Go.Lib

/-- a tree that lies aside from the row -/
def SGood (w : World) (blk : Nat) (s : Sl) : Prop := s.ok w ∧ s.n ≤ 1000 ∧ (0 < s.n → ∀ ad, s.A = some ad → ad.block ≠ blk)
abbrev SGS (w : World) (blk : Nat) := { s : Sl // SGood w blk s }
theorem good0 (w : World) (blk : Nat) : SGood w blk sl0 := ⟨⟨rfl, Rd.none_⟩, by simp, fun h => absurd h (by simp)⟩
instance (w : World) (blk : Nat) : Inhabited (SGS w blk) := ⟨⟨sl0, good0 w blk⟩⟩
def encG {w : World} {blk : Nat} (x : SGS w blk) : Value := x.1.val
def cfG {w : World} {blk : Nat} (x y : SGS w blk) : Int := cmpD x.1.L y.1.L
theorem swoG (w : World) (blk : Nat) : SWO (ltOf (cfG (w := w) (blk := blk))) where
  irrefl x := by simp [ltOf, cfG, cmpD_self]
  trans x y z h1 h2 := decide_eq_true (ltD_trans _ _ _ (of_decide_eq_true h1) (of_decide_eq_true h2))
  ntrans x y z h1 h2 := decide_eq_false (geD_trans _ _ _ (of_decide_eq_false h1) (of_decide_eq_false h2))

theorem heap_sort {α : Type} [Inhabited α] (enc : α → Value) (w : World) (blk off m : Nat) (d : Array α) (os : Array Obj) (k : Nat) (hk : k < w.heap.size) (hne : k ≠ blk) : (sortWorld enc w blk off m d os).heap[k]? = w.heap[k]? := by
  unfold sortWorld
  rw [heap_grow_old _ _ (by simpa using hk)]
  simp [putRow, mapBlock, Array.getElem?_modify, hne.symm]
theorem size_sort {α : Type} [Inhabited α] (enc : α → Value) (w : World) (blk off m : Nat) (d : Array α) (os : Array Obj) : w.heap.size ≤ (sortWorld enc w blk off m d os).heap.size := by
  unfold sortWorld
  simp
theorem ok_sort {α : Type} [Inhabited α] (enc : α → Value) (w : World) (blk off m : Nat) (d : Array α) (os : Array Obj) {s : Sl} (h : SGood w blk s) : s.ok (sortWorld enc w blk off m d os) := by
  refine ⟨h.1.len, h.1.rd.1, fun h0 => ?_⟩
  obtain ⟨b, o, e, hb, hc⟩ := h.1.rd.2 h0
  have hne := h.2.2 h0 _ e
  refine ⟨b, o, e, Nat.lt_of_lt_of_le hb (size_sort enc w blk off m d os), fun i hi j hj => ?_⟩
  rw [← hc i hi j hj]
  exact World.cell?_of_block (heap_sort enc w blk off m d os b hb hne)
theorem below_sort {α : Type} [Inhabited α] (enc : α → Value) (w : World) (blk off m : Nat) (d : Array α) (os : Array Obj) {B : Nat} (hB : B ≤ blk) (hw : B ≤ w.heap.size) : Below B w (sortWorld enc w blk off m d os) :=
  ⟨rfl, rfl, rfl, size_sort enc w blk off m d os, fun k hk => heap_sort enc w blk off m d os k (by omega) (by omega)⟩

theorem cmpLays (w : World) (blk off size : Nat) : CmpLays1 Try.prog 35 #[] (encG (w := w) (blk := blk)) cfG blk off size w := by
  intro m os dk _ x y
  have := all1_any x.1.A y.1.A x.1.n y.1.n x.1.c y.1.c x.1.L y.1.L (sortWorld encG w blk off m dk os) (ok_sort encG w blk off m dk os x.2) (ok_sort encG w blk off m dk os y.2) x.2.2.1 y.2.2.1
  refine (show Calls Try.prog 35 #[encG x, encG y] _ _ from this).mono fun e w' ⟨he, q, os', hw⟩ => ⟨he, q, os', hw⟩

/-- the trees of a row, each with what is known of it -/
def goods (w : World) (blk : Nat) (es : List Sl) (h : ∀ s ∈ es, SGood w blk s) : Array (SGS w blk) := (es.pmap (fun s hs => (⟨s, hs⟩ : SGS w blk)) h).toArray
theorem goods_map (w : World) (blk : Nat) (es : List Sl) (h : ∀ s ∈ es, SGood w blk s) : (goods w blk es h).toList.map Subtype.val = es := by
  unfold goods
  simp [List.map_pmap]
theorem goods_size (w : World) (blk : Nat) (es : List Sl) (h : ∀ s ∈ es, SGood w blk s) : (goods w blk es h).size = es.length := by simp [goods]
theorem goods_at (w : World) (blk : Nat) (es : List Sl) (h : ∀ s ∈ es, SGood w blk s) (j : Nat) (hj : j < es.length) : encG (goods w blk es h)[j]! = es[j].val := by
  have hj' : j < (goods w blk es h).size := by rw [goods_size]; exact hj
  rw [getElem!_pos _ j hj']
  simp [goods, encG]

def RetAll (n : Nat) (w : World) (e : Ending) (w' : World) : Prop := ∃ A m c es, e = .returned (.tuple #[.slice A m c, I 0]) ∧ RS w' A m c es ∧ (es.map Sl.L).Perm (trees 8 0 n 0) ∧ Below w.heap.size w w'

theorem sort_any (g cap : Nat) (es : List Sl) (w : World) (B : Nat) (htr : TR w B (.slice (some ⟨g, 0, none⟩) es.length cap) es) (hBw : B ≤ w.heap.size) (h7 : ∀ s ∈ es, s.n ≤ 1000) (hlen : es.length ≤ 1000) :
    Calls Try.prog 34 #[.slice (some ⟨g, 0, none⟩) es.length cap, .func (.func 35) #[] #[]] w fun e w' => e = .returned (.tuple #[]) ∧ (∃ es', es'.Perm es ∧ RS w' (some ⟨g, 0, none⟩) es.length cap es') ∧ Below B w w' := by
  obtain ⟨cur, hh, hgB, hnc, htk⟩ : ∃ cur, w.heap[g]? = some (.cells cur 22 (0, 0)) ∧ B ≤ g ∧ es.length ≤ cap ∧ cur.toList.take es.length = es.map Sl.val := by
    rcases htr.own.2 with ⟨hv, _⟩ | ⟨g', cap', cur, hv, hb, hh, hnc, _, _, htk⟩
    · cases hv
    · cases hv
      exact ⟨cur, hh, hb, hnc, by simpa using htk⟩
  have hgw : g < w.heap.size := by
    rcases Nat.lt_or_ge g w.heap.size with hlt | hge
    · exact hlt
    · rw [Array.getElem?_eq_none hge] at hh; cases hh
  have hgood : ∀ s ∈ es, SGood w g s := fun s hs => by
    have ht := htr.tags s hs
    refine ⟨ht.ok, h7 s hs, fun h0 ad e => ?_⟩
    obtain ⟨g2, e2, cur2, hc2, _⟩ := ht.2.2 h0
    rw [e2] at e
    cases e
    intro e3
    simp at e3
    subst e3
    rw [hh] at hc2
    injection hc2 with hc2
    injection hc2 with _ htt
    exact absurd htt (by decide)
  have hsz := goods_size w g es hgood
  have hH : Holds encG w g 0 (goods w g es hgood) := fun j hj => by
    rw [hsz] at hj
    rw [goods_at w g es hgood j hj, Nat.zero_add]
    refine ⟨?_, by simp [World.frozen?, hh]⟩
    rw [cell_of_row _ _ _ _ _ _ hh]
    have : (es.map Sl.val)[j]? = some es[j].val := by simp [List.getElem?_eq_getElem hj]
    rw [← htk, List.getElem?_take, if_pos hj] at this
    simpa using this
  have eg : ∀ args w, (callFunc 35 args).run Try.prog w = .ok (.enter 35 args) w := enters_of Try.func35 (by kernel_rfl) rfl
  have hcon := Any.slices_SortFunc Try.sortT encG (fun _ => rfl) cfG (swoG w g) 35 #[] g 0 cap (goods w g es hgood) w eg (cmpLays w g 0 _) hH hgw (by rw [hsz]; omega)
  change Calls Try.prog 34 _ _ _ at hcon
  rw [hsz] at hcon
  refine hcon.mono ?_
  rintro e w' ⟨rfl, d', n, os, hp, -, rfl⟩
  obtain ⟨hps, -, hperm⟩ := hp
  have hd' : d'.size = es.length := by rw [hps, hsz]
  have e1 : d'.extract 0 es.length = d' := by rw [← hd']; simp
  have e2 : (goods w g es hgood).extract 0 es.length = goods w g es hgood := by rw [← hsz]; simp
  rw [e1, e2] at hperm
  refine ⟨rfl, ⟨d'.toList.map Subtype.val, ?_, ?_⟩, below_sort encG w g 0 n d' os hgB hBw⟩
  · have := hperm.map Subtype.val
    rwa [goods_map] at this
  · refine ⟨by simp [hd'], ⟨hnc, fun h0 => ⟨g, 0, rfl, Nat.lt_of_lt_of_le hgw (size_sort encG w g 0 n d' os), fun i hi j hj => ?_⟩⟩, ?_⟩
    · obtain rfl : j = 0 := by omega
      have hhp := holds_grow encG _ os g 0 d' (by simpa using hgw) (holds_putRow encG (Sort.ahead w n) g 0 (goods w g es hgood) d' (holds_ahead encG w n g 0 _ hH) hps)
      have := (hhp i (by omega)).1
      have hi' : i < d'.size := by omega
      rw [getElem!_pos _ i hi'] at this
      simp only [Nat.zero_add, Nat.mul_one, Nat.add_zero] at this ⊢
      unfold sortWorld
      rw [this]
      simp [encG, List.getElem?_eq_getElem, hi']
    · intro s hs
      obtain ⟨x, _, rfl⟩ := List.mem_map.1 hs
      exact ok_sort encG w g 0 n d' os x.2

theorem All_bad (n : Int) (w : World) (h : n < 0 ∨ 7 < n) : Calls Try.prog 20 #[I n] w fun e w' => e = .returned (.tuple #[.slice none 0 0, I 1]) ∧ w = w' := by
  rcases h with h | h
  · go_enter Try.func20, Try.ntmps20
    go_wp2
    go_ret2
    exact ⟨rfl, rfl⟩
  · have h' : ¬ n < 0 := by omega
    go_enter Try.func20, Try.ntmps20
    go_wp2
    go_ret2
    exact ⟨rfl, rfl⟩

set_option maxRecDepth 100000 in
set_option maxHeartbeats 1000000 in
theorem All_ok (n : Nat) (w : World) (hn : n ≤ 7) : Calls Try.prog 20 #[I n] w (RetAll n w) := by
  have HT := Lib.hid (treesOf_any 8 0 n 0 w (Nat.zero_le _) hn (by omega) (by omega) (by omega))
  go_enter Try.func20, Try.ntmps20
  go_wp2_with fail
  refine HT.out.mono ?_
  rintro e w1 ⟨v, es, rfl, htr, hes, hb1⟩
  have hlen : es.length ≤ 429 := by
    have h1 := trees_cnt 8 0 n 0
    have h2 := scnt_le 8 (by omega) 0 (by omega) n (by omega)
    rw [← hes, List.length_map] at h1
    omega
  have h7 := sl_n htr.tags hes (m := 1000) (fun L hL => by have := trees_len 8 0 n 0 (Nat.zero_le _) (by omega) L hL; omega)
  have hpos : 0 < es.length := by
    have h1 := trees_cat n (by omega)
    rw [← hes, List.length_map] at h1
    have : ∀ n, n < 8 → 0 < cat n := by decide
    have := this n (by omega)
    omega
  obtain ⟨g, cap, rfl, -, -⟩ := htr.own.at_ hpos
  have HS := Lib.hid (sort_any g cap es w1 w.heap.size htr hb1.size h7 (by omega))
  have HES := Lib.hid hes
  have HB1 := Lib.hid hb1
  clear htr hes hb1 h7
  obtain ⟨m, hm⟩ : ∃ m, es.length = m := ⟨_, rfl⟩
  rw [hm] at HS hlen ⊢
  clear hpos hm
  go_wp2_with fail
  refine HS.out.mono ?_
  rintro e w2 ⟨rfl, ⟨es', hp, hrs⟩, hb2⟩
  have HP : Hid ((es'.map Sl.L).Perm (trees 8 0 n 0)) := by
    show List.Perm _ _
    rw [← HES.out]
    exact hp.map _
  have HRS := Lib.hid hrs
  have HB2 := Lib.hid (HB1.out.trans hb2)
  clear hp hrs hb2
  go_wp2
  go_ret2
  exact ⟨_, _, _, es', rfl, HRS.out, HP.out, HB2.out⟩

end Go.Proofs.Ytconegligedniaa
