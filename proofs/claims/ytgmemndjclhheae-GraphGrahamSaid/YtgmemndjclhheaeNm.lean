/-
  OUR OWN TEXT. slices.Delete of one number.
-/
import Derived.Test.YtgmemndjclhheaeNl
import Derived.Lib.SliceRun
import Derived.Deep.RegionLaw
namespace Go.Proofs.Ytgmemndjclhheae
open Go.RowKit

theorem setCells_row {g : Nat} {t : TypeId} {c : Nat} : ∀ (vs : List Value) (o : Nat) (w : World) (f : Nat → Value), w.rowIs g t c f → (w.setCells g o vs).rowIs g t c (fun j => if o ≤ j then vs.getD (j - o) (f j) else f j)
  | [], o, w, f, h => h.congr fun j _ => by simp
  | v :: vs, o, w, f, h => by
    have h1 := setCells_row vs (o + 1) (w.setCell ⟨g, o, none⟩ v) (fun j => if j = o then v else f j) (h.set o v)
    refine World.rowIs.congr (f := fun j => if o + 1 ≤ j then vs.getD (j - (o + 1)) (if j = o then v else f j) else (if j = o then v else f j)) h1 fun j _ => ?_
    show (if o + 1 ≤ j then vs.getD (j - (o + 1)) (if j = o then v else f j) else (if j = o then v else f j)) = if o ≤ j then (v :: vs).getD (j - o) (f j) else f j
    by_cases h1 : o + 1 ≤ j
    · rw [if_pos h1, if_pos (show o ≤ j by omega), if_neg (show ¬ j = o by omega)]
      rw [show j - o = (j - (o + 1)) + 1 by omega, List.getD_cons_succ]
    · rw [if_neg h1]
      by_cases h2 : j = o
      · subst h2; simp
      · rw [if_neg h2, if_neg (show ¬ o ≤ j by omega)]

theorem setCells_but {g : Nat} : ∀ (vs : List Value) (o : Nat) (w : World), But (fun k => k = g) w (w.setCells g o vs)
  | [], _, w => But.refl _ w
  | v :: vs, o, w => (But.set (F := fun k => k = g) w g o v rfl).trans (setCells_but vs (o + 1) _)

theorem own_row {w : World} {base g n c : Nat} {l : List Nat} (h : w.ownsRow base 3 1 (.slice (some ⟨g, 0, none⟩) n c) n (ints l)) : base ≤ g ∧ n ≤ c ∧ c ≤ maxLen ∧ l.length = n ∧ ∃ f, w.rowIs g 3 c f ∧ ∀ j (hj : j < l.length), f j = .int .i64 (l[j] : Nat) := by
  have hl := own_len h
  have h' := h.2
  rcases h' with ⟨e, _⟩ | ⟨g', c', cur, e, h1, h2, h3, h4, h5, h6⟩
  · cases e
  · cases e
    rw [Nat.mul_one] at h5 h6
    refine ⟨h1, h3, h4, hl, fun j => cur.getD j undef, ⟨cur, h2, h5, fun j hj => ?_⟩, fun j hj => ?_⟩
    · simp [h5, hj]
    · have h7 := h.cellAt j (by omega)
      rw [cell_of_row w g j cur _ (0, 0) h2] at h7
      unfold ints at h7
      rw [List.getElem?_map, List.getElem?_eq_getElem hj] at h7
      simp only [Option.map_some] at h7
      show cur.getD j undef = _
      rw [Array.getD_eq_getD_getElem?, h7]
      rfl

theorem row_own {w : World} {base g n c : Nat} {f : Nat → Value} {l : List Nat} (h : w.rowIs g 3 c f) (hb : base ≤ g) (hn : n ≤ c) (hc : c ≤ maxLen) (hl : l.length = n) (hf : ∀ j (hj : j < l.length), f j = .int .i64 (l[j] : Nat)) : w.ownsRow base 3 1 (.slice (some ⟨g, 0, none⟩) n c) n (ints l) := by
  obtain ⟨cur, h1, h2, h3⟩ := h
  refine ⟨by rw [ints_len]; omega, .inr ⟨g, c, cur, rfl, hb, h1, hn, hc, by omega, ?_⟩⟩
  rw [Nat.mul_one]
  apply List.ext_getElem?
  intro j
  rw [List.getElem?_take, Array.getElem?_toList]
  unfold ints
  rw [List.getElem?_map]
  by_cases hj : j < n
  · rw [if_pos hj, h3 j (by omega), hf j (by omega), List.getElem?_eq_getElem (by omega)]
    rfl
  · rw [if_neg hj, List.getElem?_eq_none (by omega)]
    rfl

set_option maxRecDepth 100000 in
set_option maxHeartbeats 1000000 in
theorem delete_one {w : World} {base g n c i : Nat} {l : List Nat} (h : w.ownsRow base 3 1 (.slice (some ⟨g, 0, none⟩) (n + 1) c) (n + 1) (ints l)) (hi : i ≤ n) (hn : n ≤ 1000000) :
    Calls Try.prog 126 #[.slice (some ⟨g, 0, none⟩) (n + 1) c, .int .i64 i, .int .i64 ((i : Int) + 1)] w fun e w' => e = .returned (.slice (some ⟨g, 0, none⟩) n c) ∧ w'.ownsRow base 3 1 (.slice (some ⟨g, 0, none⟩) n c) n (ints (l.eraseIdx i)) ∧ But (fun k => k = g) w w' := by
  obtain ⟨hb, hnc, hcm, hl, f, hrow, hf⟩ := own_row h
  have hcm' := hcm
  unfold maxLen at hcm
  obtain ⟨i0, hi0, hz0, hz1, hz2⟩ := info_parts Try.info_int
  have hne : ((i : Int) == (i : Int) + 1) = false := by simp; omega
  have hic : i ≤ c := by omega
  have hjc : i + 1 ≤ c := by omega
  have hcn : ¬ c = n := by omega
  obtain ⟨news, hnews⟩ : ∃ news, news = ints (l.drop (i + 1)) := ⟨_, rfl⟩
  have hlen : news.length = n - i := by rw [hnews, ints_len, List.length_drop]; omega
  have hgetn : ∀ t, t < n - i → ∃ ht : i + 1 + t < l.length, news[t]? = some (.int .i64 (l[i + 1 + t] : Nat)) := fun t ht => by
    refine ⟨by omega, ?_⟩
    rw [hnews]
    unfold ints
    rw [List.getElem?_map, List.getElem?_drop, List.getElem?_eq_getElem (by omega)]
    rfl
  obtain ⟨A, hA, hsrc⟩ : ∃ A : Addr, (if c = i + 1 then some (⟨g, 0, none⟩ : Addr) else some ⟨g, i + 1, none⟩) = some A ∧ Hid (∀ t u, news[t]? = some u → w.drew.cell? (A.add t) = some u) := by
    by_cases hc : c = i + 1
    · refine ⟨⟨g, 0, none⟩, by simp [hc], fun t u hu => ?_⟩
      have := (List.getElem?_eq_some_iff.1 hu).1
      omega
    · refine ⟨⟨g, i + 1, none⟩, by simp [hc], fun t u hu => ?_⟩
      have ht := (List.getElem?_eq_some_iff.1 hu).1
      obtain ⟨ht', h1⟩ := hgetn t (by omega)
      rw [h1] at hu
      rw [addr_add, ← hu, ← hf _ ht']
      exact hrow.cell (by omega)
  have s1 : Hid (news.length = (n - i) * 1) := by rw [Nat.mul_one]; exact hlen
  have s2 : Hid (∀ u ∈ news, u.oneCell' = true) := by rw [hnews]; exact ints_one _
  have s3 : Hid (∀ t, t < news.length → (w.drew.cell? ⟨g, 0 + i * 1 + t, none⟩).isSome = true ∧ w.drew.frozen? ⟨g, 0 + i * 1 + t, none⟩ = false) := by
    intro t ht
    refine ⟨?_, hrow.frozen _⟩
    have := hrow.cell (i := 0 + i * 1 + t) (by omega)
    show (w.cell? _).isSome = true
    rw [this]
    rfl
  obtain ⟨W1, hW1⟩ : ∃ W1, W1 = w.drew.setCells g (0 + i * 1) news := ⟨_, rfl⟩
  have hrow1 := setCells_row news (0 + i * 1) w.drew f hrow.drew
  have hbut1 : But (fun k => k = g) w W1 := by rw [hW1]; exact (But.drew w).trans (setCells_but news _ _)
  rw [← hW1] at hrow1
  have hcl : ∀ ty, (Builtin.clear_ #[56] ty #[.slice (some ⟨g, n, none⟩) 1 (c - n)]).run Try.prog W1 = .ok (.tuple #[]) (W1.setCells g n (List.replicate 1 (.int .i64 0))) := fun ty =>
    Lib.run_clear_slice W1 _ 3 ty _ Try.underlying56 (fun w => by simp [zeroValue, typeInfo, hi0, hz0]) rfl rfl g n 1 _ (by omega) (fun t ht => by rw [hrow1.cell (by omega)]; rfl) (fun t _ => hrow1.frozen _)
  have hrow2 := setCells_row (List.replicate 1 (.int .i64 0)) n W1 _ hrow1
  have hbut2 : But (fun k => k = g) w (W1.setCells g n (List.replicate 1 (.int .i64 0))) := hbut1.trans (setCells_but _ _ _)
  have HO : Hid ((W1.setCells g n (List.replicate 1 (.int .i64 0))).ownsRow base 3 1 (.slice (some ⟨g, 0, none⟩) n c) n (ints (l.eraseIdx i))) := by
    refine row_own hrow2 hb (by omega) hcm' (by rw [List.length_eraseIdx, if_pos (by omega)]; omega) fun j hj => ?_
    rw [List.length_eraseIdx, if_pos (by omega)] at hj
    rw [if_neg (show ¬ n ≤ j by omega), Nat.zero_add, Nat.mul_one, List.getElem_eraseIdx]
    by_cases hji : j < i
    · rw [if_neg (show ¬ i ≤ j by omega), dif_pos hji]
      exact hf j (by omega)
    · rw [if_pos (show i ≤ j by omega), dif_neg hji]
      obtain ⟨ht', h1⟩ := hgetn (j - i) (by omega)
      rw [List.getD_eq_getElem?_getD, h1]
      simp only [Option.getD_some]
      congr 3
      omega
  have hW : Hid (W1 = w.drew.setCells g (0 + i * 1) news) := hW1
  have hnn : i + (n - i) = n := by omega
  have h0j : (0 : Int) ≤ (i : Int) + 1 := by omega
  clear hW1 hrow1 hrow2 hrow hgetn hnews hlen h hbut1 hf
  go_enter Try.func126, Try.ntmps126
  go_upto_region 5 with fail
  go_region_law (refine step_append_room rfl (.tmp 22) (.tmp 25) 56 rfl 3 i0 1 Try.underlying56 hi0 hz1 g 0 i c (by simp [Act.eval, Act.put]) A (n - i) (c - (i + 1)) news (by simp [Act.eval, Act.put]) s1.out hsrc.out s2.out (by omega) s3.out ?_; rw [← hW.out])
  try simp only [hnn]
  go_wp2_with fail
  go_ret
  exact ⟨rfl, HO.out, hbut2⟩

#print axioms delete_one
end Go.Proofs.Ytgmemndjclhheae
