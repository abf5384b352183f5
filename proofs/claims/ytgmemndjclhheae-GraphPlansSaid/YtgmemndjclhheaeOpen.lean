/-
  OUR OWN TEXT. Jobs that came in, opened: as the reader reads them, so they lie in memory.
-/
import Derived.Test.YtgmemndjclhheaeJobs
import Derived.ProofKit
import Derived.Deep.Slices
import Derived.Deep.Strs
import Derived.OpenShut
namespace Go.Proofs.Ytgmemndjclhheae
open Go.ChangeShapes Go.WideShapes Go.RowKit Go.Deep

theorem Try.cells58 : Try.prog.cellsOf 58 = 4 := by kernel_rfl
theorem Try.cells3 : Try.prog.cellsOf 3 = 1 := by kernel_rfl
theorem Try.cells2 : Try.prog.cellsOf 2 = 1 := by kernel_rfl
theorem Try.cells56 : Try.prog.cellsOf 56 = 1 := by kernel_rfl

theorem spot_none {w : World} {a : Addr} {v : Value} (h : w.cell? (a.add 0) = some v) : a = ⟨a.block, a.off, none⟩ := by
  obtain ⟨b, off, spot⟩ := a
  have hspot : spot = none := by simpa [Addr.add] using World.cell?_spot h
  subst hspot
  rfl

section
variable {H : Type} {enc : TypeId × Value → H} {w : World} {sp : Nat → Bool} {held : Bool}

theorem bulk_pos (d : DataW H) : 1 ≤ Rows.uptoBulk d := by
  cases d with
  | lit l => cases l <;> simp [Rows.uptoBulk]
  | _ => simp [Rows.uptoBulk]

theorem bulk_all (l : List (DataW H)) : l.length ≤ Rows.uptoBulkAll l ∧ ∀ d ∈ l, Rows.uptoBulk d ≤ Rows.uptoBulkAll l := by
  induction l with
  | nil => simp [Rows.uptoBulkAll]
  | cons x l ih =>
    have := bulk_pos x
    refine ⟨by simp only [List.length_cons, Rows.uptoBulkAll]; omega, fun d hd => ?_⟩
    simp only [Rows.uptoBulkAll]
    rcases List.mem_cons.1 hd with rfl | h
    · omega
    · have := ih.2 d h; omega

theorem in64_of_wf {n : Int} (h : (Lit.int .i64 n).wf = true) : in64 n := by
  have h1 : IntKind.i64.min = -9223372036854775808 := by rfl
  have h2 : IntKind.i64.max = 9223372036854775807 := by rfl
  simp [Lit.wf, h1, h2] at h
  unfold in64
  omega

set_option maxRecDepth 100000 in
theorem ints_open {fuel : Nat} {cs : List Value} {x : DataW H × List MemPlace} (h : DataW.trod enc Try.prog w 0 sp held fuel 56 cs = some x) : ∃ (l : List Int) (v : Value), cs = [v] ∧ IntsIn w w.heap.size l v ∧ l.length ≤ Rows.uptoBulk x.1 ∧ ∀ a ∈ l, in64 a := by
  rcases open_ints Try.underlying56 Try.underlying3 Try.cells3 h with ⟨hcs, hx⟩ | ⟨a, len, cap, zs, hcs, _, hl, hm, hz, hx, hcell, hwf⟩
  · exact ⟨[], _, hcs, ⟨none, 0, rfl, Nat.le_refl _, by unfold maxLen; omega, fun k hk => by cases hk⟩, by simp, nofun⟩
  · have hzl : len ≤ zs.length := by rw [hz]; split <;> omega
    have htl : (zs.take len).length = len := by simp; omega
    refine ⟨zs.take len, _, hcs, ⟨some a, cap, by rw [htl], by rw [htl]; exact hl, hm, fun k hk => ?_⟩, ?_, fun a ha => in64_of_wf (hwf a (List.mem_of_mem_take ha))⟩
    · rw [htl] at hk
      obtain ⟨b, off, rfl, hc⟩ := ints_at hcell (show 0 < zs.length by omega)
      refine ⟨b, off, rfl, World.block_lt_of_cell? w _ (hc k (by omega)), ?_⟩
      have := hc k (by omega)
      simp only [List.getElem_take]
      rw [this, List.getD_eq_getElem?_getD, List.getElem?_eq_getElem (by omega)]
      rfl
    · subst hx
      have := (bulk_all (H := H) (lits .i64 (zs.take len))).1
      simp only [Rows.uptoBulk]
      simp only [lits, List.length_map] at this
      simp only [lits] at *
      omega

set_option maxRecDepth 100000 in
theorem job_open {fuel : Nat} {cs : List Value} {d : DataW H} {p : List MemPlace} (h : DataW.trod enc Try.prog w 0 sp held fuel 58 cs = some (d, p)) :
    ∃ (x : Int × Int × Int × List Int × Value), cs = [.int .i64 x.1, .int .i64 x.2.1, x.2.2.2.2, .int .i64 x.2.2.1] ∧ IntsIn w w.heap.size x.2.2.2.1 x.2.2.2.2 ∧ x.2.2.2.1.length ≤ Rows.uptoBulk d ∧ in64 x.1 ∧ in64 x.2.1 ∧ in64 x.2.2.1 ∧ ∀ a ∈ x.2.2.2.1, in64 a := by
  obtain ⟨xs, n, hfu, hx, hl, hlen, hf⟩ := DataW.trod_struct Try.underlying58 h
  have hl' : cs.length = 4 := hl.trans Try.cells58
  have hlen' : xs.length = 4 := hlen
  match cs, hl', xs, hlen' with
  | [c0, c1, c2, c3], _, [y0, y1, y2, y3], _ =>
    have f0 : DataW.trod enc Try.prog w 0 sp held n 3 (([c0, c1, c2, c3].drop 0).take (Try.prog.cellsOf 3)) = some y0 := hf 0 _ rfl
    have f1 : DataW.trod enc Try.prog w 0 sp held n 3 (([c0, c1, c2, c3].drop 1).take (Try.prog.cellsOf 3)) = some y1 := hf 1 _ rfl
    have f2 : DataW.trod enc Try.prog w 0 sp held n 56 (([c0, c1, c2, c3].drop 2).take (Try.prog.cellsOf 56)) = some y2 := hf 2 _ rfl
    have f3 : DataW.trod enc Try.prog w 0 sp held n 2 (([c0, c1, c2, c3].drop 3).take (Try.prog.cellsOf 2)) = some y3 := hf 3 _ rfl
    rw [Try.cells3] at f0 f1
    rw [Try.cells56] at f2
    rw [Try.cells2] at f3
    obtain ⟨k0, e0, hy0, w0⟩ := DataW.trod_int Try.underlying3 f0
    obtain ⟨k1, e1, hy1, w1⟩ := DataW.trod_int Try.underlying3 f1
    obtain ⟨l, v, e2, hin, hb, hr⟩ := ints_open f2
    obtain ⟨k3, e3, hy3, w3⟩ := DataW.trod_int Try.underlying2 f3
    obtain rfl : c0 = .int .i64 k0 := by simpa using e0
    obtain rfl : c1 = .int .i64 k1 := by simpa using e1
    obtain rfl : c2 = v := by simpa using e2
    obtain rfl : c3 = .int .i64 k3 := by simpa using e3
    simp only [Prod.mk.injEq] at hx
    obtain ⟨rfl, _⟩ := hx
    refine ⟨(k0, k1, k3, l, c2), rfl, hin, ?_, in64_of_wf w0, in64_of_wf w1, in64_of_wf w3, hr⟩
    simp only [Rows.uptoBulk, Rows.uptoBulkAll, List.map_cons, List.map_nil]
    show l.length ≤ _
    omega

set_option maxRecDepth 100000 in
theorem jobs_open {fuel : Nat} {cs : List Value} {x : DataW H × List MemPlace} (h : DataW.trod enc Try.prog w 0 sp held fuel 42 cs = some x) :
    ∃ (J : Jb) (v : Value), cs = [v] ∧ J.In w w.heap.size v ∧ J.n ≤ Rows.uptoBulk x.1 ∧ (∀ i, i < J.n → (J.aft i).length ≤ Rows.uptoBulk x.1) ∧ J.Rng ∧ (J.n = 0 ∨ ∃ el sp, x.1 = .slice el sp ∧ el.length = J.n) := by
  rcases DataW.trod_slice Try.underlying42 h with ⟨hcs, hx⟩ | ⟨a, len, cap, elems, rest, n', hfu', hcs, hx, _, hlc, hcm, hel, helem, _, _⟩
  · exact ⟨⟨0, fun _ => 0, fun _ => 0, fun _ => 0, fun _ => []⟩, _, hcs, ⟨none, 0, rfl, Nat.le_refl _, by unfold maxLen; omega, fun i hi => by cases hi⟩, Nat.zero_le _, (fun i hi => by cases hi), (fun i hi => by cases hi), .inl rfl⟩
  · have one : ∀ i, i < len → ∃ y : Int × Int × Int × List Int × Value, w.cell? (a.add (i * 4)) = some (.int .i64 y.1) ∧ w.cell? (a.add (i * 4 + 1)) = some (.int .i64 y.2.1) ∧ w.cell? (a.add (i * 4 + 2)) = some y.2.2.2.2 ∧
        w.cell? (a.add (i * 4 + 3)) = some (.int .i64 y.2.2.1) ∧ IntsIn w w.heap.size y.2.2.2.1 y.2.2.2.2 ∧ y.2.2.2.1.length ≤ Rows.uptoBulkAll (elems.map (·.1)) ∧ in64 y.1 ∧ in64 y.2.1 ∧ in64 y.2.2.1 ∧ ∀ a ∈ y.2.2.2.1, in64 a := by
      intro i hi
      have hb := helem i hi
      rw [Try.cells58, List.getElem?_eq_getElem (by omega)] at hb
      obtain ⟨cs', h1, h2⟩ := Option.bind_eq_some_iff.1 hb
      obtain ⟨_, hl3, hc3⟩ := World.cells?_some h1
      obtain ⟨y, rfl, hin, hbk, hr⟩ := job_open (d := (elems[i]'(by omega)).1) (p := (elems[i]'(by omega)).2) h2
      refine ⟨y, ?_, ?_, ?_, ?_, hin, ?_, hr⟩
      · have := hc3 0 (by omega); rw [add_add] at this; simpa using this
      · have := hc3 1 (by omega); rw [add_add] at this; simpa using this
      · have := hc3 2 (by omega); rw [add_add] at this; simpa using this
      · have := hc3 3 (by omega); rw [add_add] at this; simpa using this
      · exact Nat.le_trans hbk ((bulk_all _).2 _ (List.mem_map_of_mem (List.getElem_mem _)))
    obtain ⟨F, hF⟩ := @choose_lt _ ⟨(0, 0, 0, [], .nilIface)⟩ _ _ one
    have hbx : Rows.uptoBulkAll (elems.map (·.1)) ≤ Rows.uptoBulk x.1 := by
      subst hx
      simp only [Rows.uptoBulk]
      omega
    refine ⟨⟨len, fun i => (F i).1, fun i => (F i).2.1, fun i => (F i).2.2.1, fun i => (F i).2.2.2.1⟩, _, hcs, ⟨some a, cap, rfl, hlc, hcm, fun i hi => ?_⟩, ?_, fun i hi => ?_, fun i hi => (hF i hi).2.2.2.2.2.2, .inr ?_⟩
    · have hi' : i < len := hi
      obtain ⟨h0, h1, h2, h3, h4, _⟩ := hF i hi'
      have hsp : a = ⟨a.block, a.off, none⟩ := by
        have h00 := (hF 0 (by omega)).1
        rw [Nat.zero_mul] at h00
        exact spot_none h00
      have ad : ∀ j, a.add j = ⟨a.block, a.off + j, none⟩ := fun j => by rw [hsp]; exact add_plain ..
      have hblk : a.block < w.heap.size := by
        have := World.block_lt_of_cell? w _ h0
        rw [ad] at this
        exact this
      simp only [ad] at h0 h1 h2 h3
      simp only [Nat.add_assoc]
      exact ⟨a.block, a.off, _, congrArg some hsp, hblk, h0, h1, h2, h3, h4⟩
    · have := (bulk_all (elems.map (·.1))).1
      simp only [List.length_map] at this
      show len ≤ _
      omega
    · exact Nat.le_trans (hF i hi).2.2.2.2.2.1 hbx
    · subst hx
      exact ⟨_, _, rfl, by rw [List.length_map]; exact hel⟩
end

#print axioms jobs_open
end Go.Proofs.Ytgmemndjclhheae
