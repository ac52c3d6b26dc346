/-
  BY OTHER OPS TO THE SAME KEYS, as lists. Nothing is walked here.
-/
import Derived.Test.YtpnjnedfcdppaaaGreatDoorKKeysAll
import Derived.Test.YtpnjnedfcdppaaaGreatDoorKRef1All
import Derived.Test.YtpnjnedfcdppaaaGreatDoorRanksAll
namespace Go.Proofs.YtpnjnedfcdppaaaGreatDoor

def foldL (ops : List OP) (l : PL) : PL := ops.foldl (fun l o => doL l o.1 o.2.1 o.2.2) l
theorem step_fst (ops : List OP) : ∀ s : PL × List An, (ops.foldl stepR s).1 = foldL ops s.1 := by
  induction ops with
  | nil => intro s; rfl
  | cons o t ih => intro s; rw [List.foldl_cons, ih]; rfl
theorem runR_fst (ops : List OP) : (runR ops).1 = foldL ops [] := step_fst ops ([], [])
theorem foldL_append (a b : List OP) (l : PL) : foldL (a ++ b) l = foldL b (foldL a l) := by simp [foldL, List.foldl_append]
theorem doL_grow (l : PL) (kind key val : Int) : (doL l kind key val).length ≤ l.length + 1 := by
  unfold doL
  by_cases hc : chk l = 0
  · rw [if_neg (by simpa using hc)]
    split
    · omega
    · split
      · unfold putL
        split
        · simp
        · split
          · omega
          · have := cnt_le l key
            simp
            omega
      · split
        · unfold cutL
          split
          · simp
            omega
          · omega
        · omega
  · rw [if_pos hc]; simp
theorem foldL_len (ops : List OP) : ∀ l : PL, (foldL ops l).length ≤ l.length + ops.length := by
  induction ops with
  | nil => intro l; simp [foldL]
  | cons o t ih =>
    intro l
    have h1 := ih (doL l o.1 o.2.1 o.2.2)
    have h2 := doL_grow l o.1 o.2.1 o.2.2
    show (foldL t (doL l o.1 o.2.1 o.2.2)).length ≤ _
    rw [List.length_cons]
    omega
theorem runR_grow (ops : List OP) : (runR ops).1.length ≤ ops.length := by
  rw [runR_fst]
  simpa using foldL_len ops []

def cutsOf (ks : List Int) : List OP := ks.map fun k => (3, k, 0)
def putsOf (ks : List Int) : List OP := ks.map fun k => (1, k, 0)
theorem srt_pw : ∀ (l : PL) (lo : Int), Srt lo l → (kys l).Pairwise (· < ·) ∧ ∀ x ∈ kys l, lo ≤ x ∧ x ≤ 1000000
  | [], _, _ => ⟨List.Pairwise.nil, fun x h => by cases h⟩
  | p :: t, lo, h => by
    obtain ⟨h1, h2, h3⟩ := h
    obtain ⟨h4, h5⟩ := srt_pw t (p.1 + 1) h3
    refine ⟨List.Pairwise.cons (fun x hx => ?_) h4, fun x hx => ?_⟩
    · have := h5 x hx
      omega
    · rcases List.mem_cons.1 hx with rfl | hx
      · exact ⟨h1, h2⟩
      · have := h5 x hx
        omega
theorem rise_kys {l : PL} (h : chk l = 0) : Rise (kys l) := by
  obtain ⟨h1, h2⟩ := (chk_zero l).1 h
  obtain ⟨h3, h4⟩ := srt_pw l 0 h2
  exact ⟨by rw [kys_len]; exact h1, h3, h4⟩
theorem srt_of : ∀ (t : List Int) (lo : Int), t.Pairwise (· < ·) → (∀ x ∈ t, lo ≤ x ∧ x ≤ 1000000) → Srt lo (t.map fun k => (k, (0 : Int)))
  | [], _, _, _ => trivial
  | k :: t, lo, hp, hb => by
    have h1 := hb k (by simp)
    refine ⟨h1.1, h1.2, srt_of t (k + 1) (List.pairwise_cons.1 hp).2 fun x hx => ?_⟩
    have h2 := (List.pairwise_cons.1 hp).1 x hx
    have h3 := hb x (by simp [hx])
    omega
theorem cuts_all : ∀ (l : PL) (lo : Int), 0 ≤ lo → Srt lo l → l.length ≤ 200 → foldL (cutsOf (kys l)) l = []
  | [], _, _, _, _ => rfl
  | p :: t, lo, h0, hs, hl => by
    have hc : chk (p :: t) = 0 := (chk_zero _).2 ⟨hl, hs.mono h0⟩
    obtain ⟨h1, h2, h3⟩ := hs
    have hk : keyB p.1 = true := by simp [keyB]; omega
    have e : doL (p :: t) 3 p.1 0 = t := by
      rw [doL_cut hc, hk, if_pos rfl, cutL_eq]
      show (if p.1 < p.1 then _ else _) = t
      rw [if_neg (by omega), if_pos rfl]
    show foldL (cutsOf (kys t)) (doL (p :: t) 3 p.1 0) = []
    rw [e]
    exact cuts_all t (p.1 + 1) (by omega) h3 (by rw [List.length_cons] at hl; omega)
theorem puts_all : ∀ (ks : List Int), Rise ks → foldL (putsOf ks.reverse) [] = ks.map fun k => (k, (0 : Int))
  | [], _ => rfl
  | k :: t, h => by
    have hp := List.pairwise_cons.1 h.pw
    have hl : (k :: t).length ≤ 200 := h.len
    rw [List.length_cons] at hl
    have ht : Rise t := ⟨by omega, hp.2, fun x hx => h.bd x (by simp [hx])⟩
    have hkb := h.bd k (by simp)
    have hs : Srt (k + 1) (t.map fun k => (k, (0 : Int))) := srt_of t (k + 1) hp.2 fun x hx => by
      have := hp.1 x hx
      have := h.bd x (by simp [hx])
      omega
    have hc : chk (t.map fun k => (k, (0 : Int))) = 0 := (chk_zero _).2 ⟨by simp; omega, hs.mono (by omega)⟩
    have hk : keyB k = true := by simp [keyB]; omega
    rw [List.reverse_cons]
    unfold putsOf
    rw [List.map_append, foldL_append]
    have ih := puts_all t ht
    unfold putsOf at ih
    rw [ih]
    show doL _ 1 k 0 = _
    rw [doL_put hc, hk, if_pos rfl, putL_eq, if_pos (.inr (by simp; omega)), ins_low _ k 0 (k + 1) hs (by omega)]
    rfl
theorem kys_zero (ks : List Int) : kys (ks.map fun k => (k, (0 : Int))) = ks := by
  unfold kys
  rw [List.map_map]
  exact List.map_id'' (fun _ => rfl) ks
theorem kys_final (mo : List OP) (ks : List Int) (hR : Rise ks) : kys (runR (mo ++ cutsOf (kys (runR mo).1) ++ putsOf ks.reverse)).1 = ks := by
  obtain ⟨h1, h2⟩ := (chk_zero _).1 (chk_runR mo)
  rw [runR_fst, foldL_append, foldL_append, ← runR_fst, cuts_all _ 0 (Int.le_refl _) h2 h1, puts_all ks hR, kys_zero]
end Go.Proofs.YtpnjnedfcdppaaaGreatDoor
