/-
  OUR OWN TEXT. behind: of each job those that wait for it: a row of slices, each of which grows.
-/
import Derived.Test.YtgmemndjclhheaeNc
namespace Go.Proofs.Ytgmemndjclhheae
open Go.RowKit

/-- A row of rows of numbers, each in a block of its own. -/
structure RowsAt (w : World) (base n gb : Nat) (bv : Nat → Value) (bh : Nat → List Nat) : Prop where
  row : w.rowIs gb 56 n bv
  low : base ≤ gb
  own : ∀ a, a < n → w.ownsRow base 3 1 (bv a) (bh a).length (ints (bh a))
  ne : ∀ a, a < n → (bv a).ownBlock ≠ some gb
  apart : ∀ a b, a < n → b < n → a ≠ b → (bv a).ownBlock = none ∨ (bv a).ownBlock ≠ (bv b).ownBlock

theorem RowsAt.keep {w w' : World} {base n gb : Nat} {bv : Nat → Value} {bh : Nat → List Nat} (h : RowsAt w base n gb bv bh) (hb : Below w.heap.size w w') : RowsAt w' base n gb bv bh where
  row := h.row.of_block (hb.block gb h.row.lt)
  low := h.low
  own a ha := own_keep (h.own a ha) fun g e => hb.block g ((h.own a ha).lt g e).2
  ne := h.ne
  apart := h.apart

/-- One of them has grown. -/
theorem RowsAt.grow {w w7 : World} {base n gb a x : Nat} {bv : Nat → Value} {bh : Nat → List Nat} {v' : Value} (h : RowsAt w base n gb bv bh) (ha : a < n)
    (hown : w7.ownsRow base 3 1 v' ((bh a).length + 1) (ints (bh a) ++ [.int .i64 (x : Int)])) (hg : w.grownBy w7 (bv a).ownBlock) (hat : (v').ownBlock = (bv a).ownBlock ∨ v'.ownBlock = some w.heap.size) :
    RowsAt (w7.setCell ⟨gb, a, none⟩ v') base n gb (Gr.put bv a v') (Gr.put bh a (bh a ++ [x])) := by
  have hgb := h.row.lt
  have hne := h.ne a ha
  have nb' : v'.ownBlock ≠ some gb := by
    rcases hat with e | e
    · rw [e]; exact hne
    · rw [e]; intro e'; have := Option.some.inj e'; omega
  have st : ∀ g, g ≠ gb → (w7.setCell ⟨gb, a, none⟩ v').heap[g]? = w7.heap[g]? := fun g hn => Below.heap_setCell w7 ⟨gb, a, none⟩ v' g hn
  have row7 : w7.rowIs gb 56 n bv := h.row.of_block (hg.block gb hgb (fun e => hne e.symm))
  have other : ∀ b, b < n → b ≠ a → ∀ g, (bv b).ownBlock = some g → some g ≠ (bv a).ownBlock := fun b hb hba g e => by
    rcases h.apart b a hb ha hba with h1 | h1
    · rw [h1] at e; cases e
    · rw [← e]; exact h1
  have sep : ∀ b, b < n → b ≠ a → (bv b).ownBlock = none ∨ (bv b).ownBlock ≠ v'.ownBlock := fun b hb hba => by
    rcases hat with e | e
    · rw [e]; exact h.apart b a hb ha hba
    · rw [e]
      cases e2 : (bv b).ownBlock with
      | none => exact .inl rfl
      | some g =>
        refine .inr fun e3 => ?_
        have := Option.some.inj e3
        have := ((h.own b hb).lt g e2).2
        omega
  refine ⟨?_, h.low, fun b hb => ?_, fun b hb => ?_, fun b c hb hc hbc => ?_⟩
  · refine (row7.set a v').congr fun i _ => ?_
    unfold Gr.put
    rfl
  · by_cases e : b = a
    · subst e
      rw [Gr.put_at, Gr.put_at]
      refine own_keep (w := w7) ?_ fun g e => st g (fun e' => nb' (e' ▸ e))
      unfold ints at hown ⊢
      rw [List.length_append, List.map_append]
      exact hown
    · rw [Gr.put_ne _ _ e, Gr.put_ne _ _ e]
      refine own_keep (h.own b hb) fun g eg => ?_
      rw [st g (fun e' => h.ne b hb (e' ▸ eg))]
      exact hg.block g ((h.own b hb).lt g eg).2 (other b hb e g eg)
  · by_cases e : b = a
    · subst e; rw [Gr.put_at]; exact nb'
    · rw [Gr.put_ne _ _ e]; exact h.ne b hb
  · by_cases e : b = a
    · subst e
      have e2 : c ≠ b := fun e => hbc e.symm
      rw [Gr.put_at, Gr.put_ne _ _ e2]
      rcases sep c hc e2 with h1 | h1
      · cases e3 : v'.ownBlock with
        | none => exact .inl rfl
        | some g => rw [h1]; exact .inr nofun
      · exact .inr fun e => h1 e.symm
    · rw [Gr.put_ne _ _ e]
      by_cases e2 : c = a
      · subst e2; rw [Gr.put_at]; exact sep b hb e
      · rw [Gr.put_ne _ _ e2]; exact h.apart b c hb hc hbc

theorem rowsAt_start (w : World) (n : Nat) : RowsAt (w.alloc (.cells (madeCells #[.slice none 0 0] n) 56)) w.heap.size n w.heap.size (fun _ => .slice none 0 0) (fun _ => []) where
  row := World.rowIs_made w (.slice none 0 0) n 56
  low := Nat.le_refl _
  own _ _ := World.ownsRow_nil _ _ _ _
  ne _ _ := nofun
  apart _ _ _ _ _ := .inl rfl

/-- What behind answers. -/
def BehindRes (J : Jb) (w : World) (e : Ending) (w' : World) : Prop := ∃ gb bv bh, e = .returned (.slice (some ⟨gb, 0, none⟩) J.n J.n) ∧ RowsAt w' w.heap.size J.n gb bv bh ∧ Beh J bh ∧ Below w.heap.size w w'

theorem Try.info_ints : (Try.prog.info? 56).map (fun i => (i.zero, i.size, i.bytes)) = some (some (.slice none 0 0), 1, 24) := by kernel_rfl

set_option maxRecDepth 100000 in
set_option maxHeartbeats 1000000 in
theorem behind_any (J : Jb) (w : World) (B : Nat) (v : Value) (hin : J.In w B v) (hB : B ≤ w.heap.size) (hg : J.Good) (hnb : ¬ J.Big) (hn : J.n ≤ 200) :
    Calls Try.prog 65 #[v] w (BehindRes J w) := by
  have hin0 := hin
  obtain ⟨a, cap, rfl, hl, hc, hq⟩ := hin
  clear hq
  unfold maxLen at hc
  obtain ⟨i0, hi0, hz0, hz1, hz2⟩ := info_parts Try.info_int
  have hmk := run_make_row' (P := Try.prog) 75 56 (.slice none 0 0) 24 Try.underlying75 Try.info_ints rfl .i64 .i64 J.n (by omega) (by omega)
  have hst := rowsAt_start w J.n
  have hlow : Below w.heap.size w (w.alloc (.cells (madeCells #[.slice none 0 0] J.n) 56)) := (Below.refl _ _).alloc (Nat.le_refl _) _
  go_enter Try.func65, Try.ntmps65
  go_wp2_with fail
  clear hmk
  go_loopw [13] (fun iv wr => ∃ (k : Nat) (bv : Nat → Value) (bh : Nat → List Nat), k ≤ J.n ∧ iv = .int .i64 k ∧ Below w.heap.size w wr ∧ RowsAt wr w.heap.size J.n w.heap.size bv bh ∧ BehTo J k 0 bh) (fun iv _ => J.n - (intOf iv).toNat)
  case atStart => exact ⟨0, _, _, Nat.zero_le _, rfl, hlow, hst, behTo_start J⟩
  case round =>
    rename World => w3
    obtain ⟨k, bv, bh, hk, rfl, hb3, hr3, hto⟩ := hrel
    clear hst hlow
    by_cases hkt : k < J.n
    · obtain ⟨b, off, aa, acap, rfl, hbB, f0, f1, f2, f3, h1, h2, hx⟩ := hin0.cells hB hb3 hkt
      have hs3 := hb3.size
      have hlen : (J.aft k).length ≤ 200 := Nat.le_of_not_lt fun h => hnb ⟨k, hkt, .inr h⟩
      have hgk := (hg k hkt).2
      have hxw : ∀ wr, Below w.heap.size w wr → ∀ j (h : j < (J.aft k).length), ∃ ab ao, aa = some ⟨ab, ao, none⟩ ∧ ab < B ∧ wr.cell? ⟨ab, ao + j, none⟩ = some (.int .i64 (J.aft k)[j]) := fun wr hb j h => by
        obtain ⟨ab, ao, e1, e2, e3⟩ := hx j h
        exact ⟨ab, ao, e1, e2, by rw [World.cell?_of_block (w := w3) ((hb.block ab (by omega)).trans (hb3.block ab (by omega)).symm)]; exact e3⟩
      have hbw := hb3.alloc hb3.size (.cells #[.int .i64 (J.len k), .int .i64 (J.urg k), .slice aa (J.aft k).length acap, .int .i64 (J.num k)] 58)
      have hrw := hr3.keep ((Below.refl _ _).alloc (Nat.le_refl _) (.cells #[.int .i64 (J.len k), .int .i64 (J.urg k), .slice aa (J.aft k).length acap, .int .i64 (J.num k)] 58))
      go_wp2_with fail
      obtain ⟨W4, hW4⟩ : ∃ X, w3.alloc (.cells #[.int .i64 (J.len k), .int .i64 (J.urg k), .slice aa (J.aft k).length acap, .int .i64 (J.num k)] 58) = X := ⟨_, rfl⟩
      rw [hW4] at hbw hrw ⊢
      clear hW4 hr3 hb3 hx f0 f1 f2 f3 hs3
      go_loopw [21] (fun jv wr => ∃ (j : Nat) (bv : Nat → Value) (bh : Nat → List Nat), j ≤ (J.aft k).length ∧ jv = .int .i64 j ∧ Below w.heap.size w wr ∧ RowsAt wr w.heap.size J.n w.heap.size bv bh ∧ BehTo J k j bh) (fun jv _ => (J.aft k).length - (intOf jv).toNat)
      case atStart => exact ⟨0, bv, bh, Nat.zero_le _, rfl, hbw, hrw, hto⟩
      case round =>
        rename World => w5
        clear hbw hrw hto
        obtain ⟨j, bv, bh, hj, rfl, hb5, hr5, hto⟩ := hrel
        by_cases hjt : j < (J.aft k).length
        · obtain ⟨ab, ao, rfl, hab, ac⟩ := hxw w5 hb5 j hjt
          have hjt' : j < (J.gr.aft k).length := by show j < ((J.aft k).map Int.toNat).length; rw [List.length_map]; exact hjt
          have hto' := behTo_one hto hjt'
          have hgx := hgk _ (List.getElem_mem hjt)
          obtain ⟨x, hxe, hxn⟩ : ∃ x : Nat, (J.aft k)[j] = x ∧ x < J.n := ⟨(J.aft k)[j].toNat, by omega, by omega⟩
          have hxg : (J.gr.aft k)[j] = x := by show ((J.aft k).map Int.toNat)[j]'(by rw [List.length_map]; exact hjt) = x; rw [List.getElem_map, hxe]; omega
          rw [hxg] at hto'
          rw [hxe] at ac
          have c1 := hr5.row.cell hxn
          have z1 := hr5.row.frozen x
          have y1 := hr5.row.lt
          have hfew := hto.few x hxn
          have hs5 := hb5.size
          have hown := hr5.own x hxn
          have HXE : Hid ((J.aft k)[j] = x) := hxe
          have HTO : Hid (BehTo J k (j + 1) (Gr.put bh x (bh x ++ [k]))) := hto'
          have hr6 := fun ob => hr5.keep ((Below.refl _ _).alloc (Nat.le_refl _) ob)
          have hb6 := fun ob => hb5.alloc hb5.size ob
          clear hxe hxg hto' hxw hgx hto
          go_wp2_with (at_builtin; refine wpList_append_mem rfl (.tmp 30) (.tmp 32) 56 rfl w.heap.size 3 i0 _ 1 8 Try.underlying56 hi0 hz0 hz1 hz2 rfl (by decide) _ _ _ rfl (hown.alloc _) (some ⟨w5.heap.size, 0, none⟩) 1 1 [.int .i64 k] rfl rfl nofun ?c2 ?c1 (by unfold maxLen; omega) (by omega) (by simp; omega) ?_)
          case c2 => exact src_one (by simp)
          case c1 => intro u hu; rw [List.mem_singleton] at hu; rw [hu]; rfl
          intro v' w7 hown' hg' hat'
          have hr7 := (hr6 _).grow hxn hown' hg' (by simpa using hat')
          have hb7 : Below w.heap.size w (w7.setCell ⟨w.heap.size, x, none⟩ v') := (below_grown (hb6 _) (by simp; omega) hg' (fun g e => (hown.lt g e).1)).setCell (by exact Nat.le_refl _) v'
          have row7 : w7.rowIs w.heap.size 56 J.n bv := (hr6 _).row.of_block (hg'.block _ (hr6 _).row.lt (fun e => hr5.ne x hxn e.symm))
          have z7 := row7.frozen x
          have c7 := row7.cell hxn
          have y7 := row7.lt
          obtain ⟨a7, cap7, rfl, _, _, _⟩ := own_shape hown'
          clear c1 z1 y1 hown' hg' hat' row7 hown
          go_wp2_with fail
          go_roundw
          case rel => exact ⟨j + 1, _, _, by omega, by go_num, hb7, hr7, HTO.out⟩
          case measure => simp [intOf]; omega
        · obtain rfl : j = (J.aft k).length := by omega
          have hto2 := behTo_row hto (show (J.aft k).length = ((J.aft k).map Int.toNat).length by rw [List.length_map]) hlen
          have HTO : Hid (BehTo J (k + 1) 0 bh) := hto2
          clear hto hto2
          go_wp2_with fail
          go_roundw
          case rel => exact ⟨k + 1, _, _, by omega, by go_num, hb5, hr5, HTO.out⟩
          case measure => simp [intOf]; omega
    · obtain rfl : k = J.n := by omega
      go_wp2_with fail
      go_ret
      exact ⟨_, _, _, rfl, hr3, behTo_end hto hn, hb3⟩

#print axioms behind_any
end Go.Proofs.Ytgmemndjclhheae
