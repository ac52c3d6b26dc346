/-
  slices.Delete of one deed that is told.
-/
import Derived.Test.YtfmdpmebllepeaaJClone
import Derived.Deep.RegionLaw
import Derived.Laws.IdiomCopy
namespace Go.Proofs.Ytfmdpmebllepeaa
open Go.RowKit Go.Maps

abbrev z5 : List Value := [I 0, I 0, I 0, I 0, .bool false]
theorem run_clear5 {P : Program} (w : World) (t e ty : TypeId) (ht : P.underlying t = some (.slice e)) (hv : ∀ w, (zeroValue e).run P w = .ok (.agg #[I 0, I 0, I 0, I 0, .bool false]) w) (b o c : Nat)
    (hc : ∀ j, j < 5 → (w.cell? ⟨b, o + j, none⟩).isSome = true) (hf : ∀ j, j < 5 → w.frozen? ⟨b, o + j, none⟩ = false) :
    (Builtin.clear_ #[t] ty #[.slice (some ⟨b, o, none⟩) 1 c]).run P w = .ok (.tuple #[]) (w.setCells b o z5) := by
  have hzc : (Builtin.zeroCells (Value.agg #[I 0, I 0, I 0, I 0, .bool false]).cells 1).toList = z5 := by kernel_rfl
  have hst := run_storeCells_cells (P := P) b o z5 0 w (by simpa using hc) (by simpa using hf) (by intro v hv'; simp only [List.mem_cons, List.not_mem_nil, or_false] at hv'; rcases hv' with rfl | rfl | rfl | rfl | rfl <;> rfl)
  simp only [Nat.add_zero] at hst
  simp [Builtin.clear_, run_underlying ht, hv, hzc, hst]
theorem below_setC {B : Nat} {a : World} {b : Nat} (hb : B ≤ b) : ∀ (vs : List Value) (o : Nat) (w : World), Below B a w → Below B a (w.setCells b o vs)
  | [], _, _, h => h
  | v :: r, o, w, h => below_setC hb r (o + 1) _ (h.setCell (p := ⟨b, o, none⟩) hb v)
theorem setC_size (b : Nat) : ∀ (vs : List Value) (o : Nat) (w : World), (w.setCells b o vs).heap.size = w.heap.size
  | [], _, _ => rfl
  | v :: r, o, w => by rw [World.setCells, setC_size b r (o + 1), jsize_set]
theorem DR.of_flat {w : World} {g : Nat} {E : List Dn} (hg : g < w.heap.size) (h : ∀ q u, (flatD E)[q]? = some u → w.cell? ⟨g, q, none⟩ = some u) : DR w (some ⟨g, 0, none⟩) E.length E :=
  ⟨rfl, fun _ => ⟨g, rfl, hg, fun i hi k hk => by
    have e := flatD_at E i k hi hk
    have hlt : k < (dcells E[i]).length := by simpa [dcells] using hk
    rw [List.getElem?_eq_getElem hlt] at e ⊢
    exact h _ _ e⟩⟩
set_option maxRecDepth 100000 in
set_option maxHeartbeats 4000000 in
theorem delD_any (base g n cap k j : Nat) (hj : j = k + 1) (L : List Dn) (w : World) (h : OwnD w base (.slice (some ⟨g, 0, none⟩) n cap) L) (hl : L.length = n) (hk : k < n) (hn : n ≤ 1000) :
    Calls Try.prog 22 #[.slice (some ⟨g, 0, none⟩) n cap, .int .i64 k, .int .i64 j] w fun e w' => ∃ c', e = .returned (.slice (some ⟨g, 0, none⟩) (n - 1) c') ∧ DR w' (some ⟨g, 0, none⟩) (n - 1) (L.eraseIdx k) ∧ ∀ B, B ≤ g → Below B w w' := by
  have hcapn : n ≤ cap ∧ cap ≤ 9223372036854775807 := by
    rcases h.2 with ⟨h0, _⟩ | ⟨g', cap', cur, h0, h2, h3, h4, h5, h6, h7⟩
    · cases h0
    · cases h0
      exact ⟨by omega, by unfold maxLen at h5; omega⟩
  obtain ⟨cs, hcs, hct⟩ : ∃ cs : Array Value, w.heap[g]? = some (.cells cs 37 (0, 0)) ∧ cs.toList.take (n * 5) = flatD L := by
    rcases h.2 with ⟨h0, _⟩ | ⟨g', cap', cur, h0, h2, h3, h4, h5, h6, h7⟩
    · cases h0
    · cases h0
      exact ⟨cur, h3, by rw [← hl]; exact h7⟩
  have hfl : ∀ q u, (flatD L)[q]? = some u → w.cell? ⟨g, q, none⟩ = some u := fun q u hu => by
    rw [jcell hcs, ← Array.getElem?_toList]
    rw [← hct, List.getElem?_take] at hu
    split at hu
    · exact hu
    · cases hu
  have hfr : ∀ q, w.frozen? ⟨g, q, none⟩ = false := fun q => jfroz hcs
  have hg := jblk hcs
  have hsome : ∀ q, q < n * 5 → (w.cell? ⟨g, q, none⟩).isSome = true := fun q hq => by
    have hlt : q < (flatD L).length := by rw [flatD_length, hl]; exact hq
    rw [hfl q _ (List.getElem?_eq_getElem hlt)]
    rfl
  -- what is moved
  obtain ⟨news, hnews⟩ : ∃ news, news = flatD (L.drop j) := ⟨_, rfl⟩
  have hlen : news.length = (n - j) * 5 := by rw [hnews, flatD_length, List.length_drop, hl]
  have hsplit : flatD L = flatD (L.take j) ++ news := by rw [hnews, ← flatD_append, List.take_append_drop]
  have hl1 : (flatD (L.take j)).length = j * 5 := by rw [flatD_length, List.length_take]; omega
  have hget : ∀ t u, news[t]? = some u → w.cell? ⟨g, j * 5 + t, none⟩ = some u := fun t u hu => by
    refine hfl _ _ ?_
    rw [hsplit, List.getElem?_append_right (by omega), hl1, Nat.add_sub_cancel_left]
    exact hu
  obtain ⟨A, hA, hsrc⟩ : ∃ A : Addr, (if cap = j then (some ⟨g, 0, none⟩ : Option Addr) else some ⟨g, j * 5, none⟩) = some A ∧ Hid (∀ t u, news[t]? = some u → w.drew.cell? (A.add t) = some u) := by
    by_cases hc : cap = j
    · refine ⟨⟨g, 0, none⟩, by simp [hc], fun t u hu => ?_⟩
      have h0 : news.length = 0 := by rw [hlen]; omega
      rw [List.length_eq_zero_iff.1 h0] at hu
      simp at hu
    · refine ⟨⟨g, j * 5, none⟩, by simp [hc], fun t u hu => ?_⟩
      rw [Addr.add_lit]
      exact hget t u hu
  have s1 : Hid (news.length = (n - j) * 5) := hlen
  have s2 : Hid (∀ u ∈ news, u.oneCell' = true) := by rw [hnews]; exact fdOne _
  have s3 : Hid (∀ t, t < news.length → (w.drew.cell? ⟨g, 0 + k * 5 + t, none⟩).isSome = true ∧ w.drew.frozen? ⟨g, 0 + k * 5 + t, none⟩ = false) := by
    intro t ht
    rw [hlen] at ht
    exact ⟨hsome _ (by omega), hfr _⟩
  obtain ⟨W1, hW1⟩ : ∃ W1, W1 = w.drew.setCells g (0 + k * 5) news := ⟨_, rfl⟩
  have hin : ∀ t (ht : t < news.length), W1.cell? ⟨g, k * 5 + t, none⟩ = some news[t] := fun t ht => by
    have := World.cell?_setCells_in g news (0 + k * 5) w.drew (fun q hq => (s3 q hq).1) t ht
    rw [Nat.zero_add] at this
    rw [hW1, Nat.zero_add]
    exact this
  have hout : ∀ q, q < k * 5 ∨ k * 5 + news.length ≤ q → W1.cell? ⟨g, q, none⟩ = w.cell? ⟨g, q, none⟩ := fun q hq => by
    rw [hW1, World.cell?_setCells_out g news (0 + k * 5) w.drew ⟨g, q, none⟩ (fun _ _ => by show q < 0 + k * 5 ∨ 0 + k * 5 + news.length ≤ q; omega)]
    rfl
  have hsome1 : ∀ q, q < n * 5 → (W1.cell? ⟨g, q, none⟩).isSome = true := fun q hq => by
    by_cases hq1 : q < k * 5 ∨ k * 5 + news.length ≤ q
    · rw [hout q hq1]; exact hsome q hq
    · have := hin (q - k * 5) (by omega)
      rw [show k * 5 + (q - k * 5) = q by omega] at this
      rw [this]; rfl
  have hfr1 : ∀ q, W1.frozen? ⟨g, q, none⟩ = false := fun q => by rw [hW1, World.frozen?_setCells]; exact hfr q
  have hcl : ∀ ty, (Builtin.clear_ #[24] ty #[.slice (some ⟨g, (k + (n - j)) * 5, none⟩) (n - (k + (n - j))) (cap - (k + (n - j)))]).run Try.prog W1 = .ok (.tuple #[]) (W1.setCells g ((k + (n - j)) * 5) z5) := fun ty => by
    rw [show n - (k + (n - j)) = 1 by omega]
    exact run_clear5 W1 _ _ ty Try.underlying24 (fun _ => by kernel_rfl) g _ _ (fun q hq => hsome1 _ (by omega)) (fun q hq => hfr1 _)
  have HDR : Hid (DR (W1.setCells g ((k + (n - j)) * 5) z5) (some ⟨g, 0, none⟩) (n - 1) (L.eraseIdx k)) := by
    have hel : (L.eraseIdx k).length = n - 1 := by rw [List.length_eraseIdx, if_pos (by omega), hl]
    rw [← hel]
    refine DR.of_flat (by rw [setC_size, hW1, setC_size]; exact hg) fun q u hu => ?_
    have hq : q < (n - 1) * 5 := by
      have := (List.getElem?_eq_some_iff.1 hu).1
      rwa [flatD_length, hel] at this
    rw [World.cell?_setCells_out g z5 _ W1 ⟨g, q, none⟩ (fun _ _ => .inl (by show q < _; omega))]
    have hE : flatD (L.eraseIdx k) = flatD (L.take k) ++ news := by rw [List.eraseIdx_eq_take_drop_succ, flatD_append, hnews, hj]
    have hl0 : (flatD (L.take k)).length = k * 5 := by rw [flatD_length, List.length_take]; omega
    rw [hE] at hu
    by_cases hqk : q < k * 5
    · rw [hout q (.inl hqk)]
      rw [List.getElem?_append_left (by omega)] at hu
      refine hfl q u ?_
      rw [← List.take_append_drop k L, flatD_append, List.getElem?_append_left (by omega)]
      exact hu
    · rw [List.getElem?_append_right (by omega), hl0] at hu
      obtain ⟨ht, hv⟩ := List.getElem?_eq_some_iff.1 hu
      have := hin (q - k * 5) ht
      rw [show k * 5 + (q - k * 5) = q by omega, hv] at this
      exact this
  have HBW : Hid (∀ B, B ≤ g → Below B w (W1.setCells g ((k + (n - j)) * 5) z5)) := fun B hB => below_setC hB _ _ _ (by rw [hW1]; exact below_setC hB _ _ _ (Below.refl _ _).drew)
  have hW : Hid (W1 = w.drew.setCells g (0 + k * 5) news) := hW1
  obtain ⟨i0, hi, hz0, hz1, hz2⟩ := jinfo_parts done_info
  have HI := Lib.hid hi
  have HZ1 := Lib.hid hz1
  have hkc : k ≤ cap := by omega
  have hjc : j ≤ cap := by omega
  have hkn : j ≤ n := by omega
  have hroom : k + (n - j) ≤ cap := by omega
  have hkj : k ≤ j := by omega
  have hcne : ¬ cap = k + (n - j) := by omega
  have hcne' : ¬ k + (n - j) = cap := by omega
  have hne : ((k : Int) == (j : Int)) = false := by rw [beq_eq_false_iff_ne]; omega
  clear hW1 hin hout hsome1 hfr1 hfl hfr hsome hget hsplit hl1 hlen hnews hcs hct h hz0 hz2 hi hz1
  have HJ := Lib.hid hj
  clear hj
  go_enter Try.func22, Try.ntmps22
  go_wp2_with fail
  go_region_law (refine step_append_room rfl (.tmp 22) (.tmp 25) 24 rfl 37 i0 5 Try.underlying24 HI.out HZ1.out g 0 k cap (by simp [Act.eval, Act.put]) A (n - j) (cap - j) news (by simp [Act.eval, Act.put]) s1.out hsrc.out s2.out hroom s3.out ?_; rw [← hW.out])
  go_wp2
  go_ret
  exact ⟨cap, by rw [show n - 1 = k + (n - j) by have := HJ.out; omega]; rfl, HDR.out, HBW.out⟩

end Go.Proofs.Ytfmdpmebllepeaa
