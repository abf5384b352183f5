/-
  OUR OWN TEXT. longest.
-/
import Derived.Test.YtgmemndjclhheaeNh
namespace Go.Proofs.Ytgmemndjclhheae
open Go.RowKit

/-- The longest ways, k jobs of the order looked at. -/
structure LongS (J : Jb) (ol : List Nat) (k : Nat) (en : Nat → Nat) (mo : Nat) : Prop where
  zero : ∀ i, i ∉ ol.take k → en i = 0
  ways : ∀ i ∈ ol.take k, (∀ a ∈ J.gr.aft i, en a + J.gr.len i ≤ en i) ∧ J.gr.len i ≤ en i ∧ (en i = J.gr.len i ∨ ∃ a ∈ J.gr.aft i, en i = en a + J.gr.len i)
  most : ∀ i ∈ ol.take k, en i ≤ mo
  some : mo = 0 ∨ ∃ i ∈ ol.take k, en i = mo
  few : (∀ i, en i ≤ k * 1000) ∧ mo ≤ k * 1000

theorem longS_start (J : Jb) (ol : List Nat) : LongS J ol 0 (fun _ => 0) 0 :=
  ⟨fun _ _ => rfl, fun i h => by simp at h, fun i h => by simp at h, .inl rfl, fun _ => Nat.zero_le _, Nat.zero_le _⟩

/-- One job: the greatest of the first j of its After. -/
structure InS (A : List Nat) (en : Nat → Nat) (j c : Nat) : Prop where
  most : ∀ x (h : x < A.length), x < j → en A[x] ≤ c
  some : c = 0 ∨ ∃ a ∈ A, en a = c

theorem inS_start (A : List Nat) (en : Nat → Nat) : InS A en 0 0 := ⟨fun x _ h => by omega, .inl rfl⟩
theorem inS_next {A : List Nat} {en : Nat → Nat} {j c : Nat} (h : InS A en j c) (hj : j < A.length) : InS A en (j + 1) (max c (en A[j])) where
  most x hx hxj := by
    rcases Nat.lt_succ_iff_lt_or_eq.1 hxj with h1 | rfl
    · have := h.most x hx h1; omega
    · omega
  some := by
    rcases Nat.le_total c (en A[j]) with h1 | h1
    · right; exact ⟨A[j], List.getElem_mem hj, by omega⟩
    · rcases h.some with h2 | ⟨a, ha, h2⟩
      · left; omega
      · right; exact ⟨a, ha, by omega⟩

theorem LongS.next {J : Jb} {ol : List Nat} {k : Nat} {en : Nat → Nat} {most : Nat} (h : LongS J ol k en most) (hord : OrdS J ol ol.length) (hR : J.Right) (hk : k < ol.length) {c : Nat} (hin : InS (J.gr.aft ol[k]) en (J.gr.aft ol[k]).length c) :
    LongS J ol (k + 1) (Gr.put en ol[k] (c + J.gr.len ol[k])) (max most (c + J.gr.len ol[k])) ∧ c ≤ k * 1000 ∧ en ol[k] = 0 := by
  have hnot : ol[k] ∉ ol.take k := of_decide_eq_false (nodup_take hord.nd hk)
  have hah := hord.ahead k hk
  have hlt : ol[k] < J.n := hord.lt _ (List.getElem_mem hk)
  have hlen := hR.len _ hlt
  have hll : J.gr.len ol[k] ≤ 1000 := by rw [gr_len]; omega
  have hc : c ≤ k * 1000 := by
    rcases hin.some with h1 | ⟨a, _, h1⟩
    · omega
    · have := h.few.1 a; omega
  have ne : ∀ a, a ∈ ol.take k → a ≠ ol[k] := fun a ha e => hnot (e ▸ ha)
  refine ⟨⟨fun i hi => ?_, fun i hi => ?_, fun i hi => ?_, ?_, fun i => ?_, ?_⟩, hc, h.zero _ hnot⟩
  · rw [List.take_succ_eq_append_getElem hk, List.mem_append, List.mem_singleton] at hi
    have e : i ≠ ol[k] := fun e => hi (.inr e)
    rw [Gr.put_ne _ _ e]
    exact h.zero i fun h => hi (.inl h)
  · rw [List.take_succ_eq_append_getElem hk, List.mem_append, List.mem_singleton] at hi
    rcases hi with hi | rfl
    · have hw := h.ways i hi
      have e := ne i hi
      have hai : ∀ a ∈ J.gr.aft i, a ≠ ol[k] := by
        intro a ha
        obtain ⟨x, hx, hxe⟩ := List.mem_iff_getElem.1 hi
        rw [List.length_take] at hx
        have hx' : x < ol.length := by omega
        have e3 : ol[x] = i := by rw [List.getElem_take] at hxe; exact hxe
        have h2 := hord.ahead x hx' a (by rw [e3]; exact ha)
        refine ne a ?_
        rw [show ol.take x = (ol.take k).take x by rw [List.take_take]; congr 1; omega] at h2
        exact List.mem_of_mem_take h2
      rw [Gr.put_ne _ _ e]
      refine ⟨fun a ha => ?_, hw.2.1, ?_⟩
      · rw [Gr.put_ne _ _ (hai a ha)]; exact hw.1 a ha
      · rcases hw.2.2 with h1 | ⟨a, ha, h1⟩
        · exact .inl h1
        · exact .inr ⟨a, ha, by rw [Gr.put_ne _ _ (hai a ha)]; exact h1⟩
    · rw [Gr.put_at]
      refine ⟨fun a ha => ?_, by omega, ?_⟩
      · rw [Gr.put_ne _ _ (ne a (hah a ha))]
        obtain ⟨x, hx, rfl⟩ := List.mem_iff_getElem.1 ha
        have := hin.most x hx hx
        omega
      · rcases hin.some with h1 | ⟨a, ha, h1⟩
        · left; omega
        · right; exact ⟨a, ha, by rw [Gr.put_ne _ _ (ne a (hah a ha))]; omega⟩
  · rw [List.take_succ_eq_append_getElem hk, List.mem_append, List.mem_singleton] at hi
    rcases hi with hi | rfl
    · rw [Gr.put_ne _ _ (ne i hi)]; have := h.most i hi; omega
    · rw [Gr.put_at]; omega
  · rcases Nat.le_total most (c + J.gr.len ol[k]) with h1 | h1
    · right
      refine ⟨ol[k], ?_, by rw [Gr.put_at]; omega⟩
      have hmm : ol[k] ∈ ol.take k ++ [ol[k]] := List.mem_append_right _ (List.mem_singleton.2 rfl)
      rw [← List.take_succ_eq_append_getElem hk] at hmm
      exact hmm
    · rcases h.some with h2 | ⟨i, hi, h2⟩
      · left; omega
      · right
        refine ⟨i, ?_, by rw [Gr.put_ne _ _ (ne i hi)]; omega⟩
        rw [List.take_succ_eq_append_getElem hk]
        exact List.mem_append_left _ hi
  · by_cases e : i = ol[k]
    · subst e
      rw [Gr.put_at]
      omega
    · rw [Gr.put_ne _ _ e]
      exact Nat.le_trans (h.few.1 i) (Nat.mul_le_mul_right _ (Nat.le_succ k))
  · have h9 := h.few.2
    omega

theorem LongS.sums {J : Jb} {ol : List Nat} {en : Nat → Nat} {most : Nat} (h : LongS J ol ol.length en most) (hR : J.Right) (hall : ∀ x, x < J.n → x ∈ ol) (hlt : ∀ x ∈ ol, x < J.n) : Gr.Sums J.gr (Gr.sumN J.gr.len J.gr.n) most := by
  have e : ol.take ol.length = ol := List.take_of_length_le (Nat.le_refl _)
  have hw := h.ways
  have hm := h.most
  have hs := h.some
  rw [e] at hw hm hs
  refine ⟨rfl, en, ⟨right_len hR, right_aft hR, fun i hi => (hw i (hall i hi)).1, fun i hi => (hw i (hall i hi)).2.1, fun i hi => (hw i (hall i hi)).2.2⟩, fun i hi => hm i (hall i hi), ?_⟩
  rcases hs with h1 | ⟨i, hi, h1⟩
  · exact .inl h1
  · exact .inr ⟨i, hlt i hi, h1⟩

/-- What longest answers. -/
def LongRes (J : Jb) (w : World) (e : Ending) (w' : World) : Prop := ∃ y : Nat, e = .returned (.int .i64 y) ∧ Gr.Sums J.gr (Gr.sumN J.gr.len J.gr.n) y ∧ Below w.heap.size w w'

set_option maxRecDepth 100000 in
set_option maxHeartbeats 1000000 in
theorem longest_any (J : Jb) (w : World) (B : Nat) (v : Value) (hin : J.In w B v) (hB : B ≤ w.heap.size) (hg : J.Good) (hnb : ¬ J.Big) (hR : J.Right) (hA : J.Acyc) (hsm : J.Small) :
    Calls Try.prog 47 #[v] w (LongRes J w) := by
  have hn := hR.few
  have hin0 := hin
  have KI := fun W (hb : Below w.heap.size w W) => inOrder_any J W B v (hin.keep fun k hk => hb.block k (by omega)) (by have := hb.size; omega) hg hnb hn hsm
  obtain ⟨a, cap, rfl, hl, hc, hq⟩ := hin
  clear hq
  unfold maxLen at hc
  have hmk := run_make_row' (P := Try.prog) 56 3 (.int .i64 0) 8 Try.underlying56 Try.info_int rfl .i64 .i64 J.n (by omega) (by omega)
  have hlow : Below w.heap.size w (w.alloc (.cells (madeCells #[.int .i64 0] J.n) 3)) := (Below.refl _ _).alloc (Nat.le_refl _) _
  have hrow := World.rowIs_made w (.int .i64 0) J.n 3
  have KI1 := KI _ hlow
  go_enter Try.func47, Try.ntmps47
  go_upto_region 3 with fail
  clear hmk KI
  go_upto_region 4 with (go_at_call 44; refine KI1.mono ?_; rintro e w2 ⟨ov, ol, rfl, hown, hord, hb2⟩; obtain ⟨oa, oc, rfl, ho1, ho2, _⟩ := own_shape hown)
  unfold maxLen at ho2
  have hs2 := hb2.size
  have hb02 : Below w.heap.size w w2 := hlow.trans (hb2.mono (by simp))
  have hrow2 := hrow.of_block (hb2.block w.heap.size (by simp))
  have hs0 : w.heap.size < w2.heap.size := by simp at hs2; omega
  have hgo : ∀ g, (Value.slice oa ol.length oc).ownBlock = some g → w.heap.size ≠ g := fun g e => by have := (hown.lt g e).1; simp at this; omega
  clear KI1 hlow hrow hb2 hs2
  go_loopw [3, 15] (fun mv kv wr => ∃ (k mo : Nat) (en : Nat → Nat), k ≤ ol.length ∧ mv = .int .i64 mo ∧ kv = .int .i64 k ∧ But (fun x => x = w.heap.size) w2 wr ∧ wr.rowIs w.heap.size 3 J.n (fun i => .int .i64 (en i)) ∧ LongS J ol k en mo) (fun _ kv _ => ol.length - (intOf kv).toNat)
  case atStart => exact ⟨0, 0, fun _ => 0, Nat.zero_le _, rfl, rfl, But.refl _ _, hrow2, longS_start J ol⟩
  case round =>
    rename World => w3
    clear hrow2
    obtain ⟨k, mo, en, hk, rfl, rfl, hbt3, hrow3, hlo⟩ := hrel
    have hle := hord.len_le
    have hb3 : Below w.heap.size w w3 := hb02.trans (hbt3.below (by omega) (fun x hx e => by omega))
    by_cases hkt : k < ol.length
    · have hownW : ∀ W, But (fun x => x = w.heap.size) w2 W → W.ownsRow (w.alloc (.cells (madeCells #[.int .i64 0] J.n) 3)).heap.size 3 1 (.slice oa ol.length oc) ol.length (ints ol) := fun W h => own_keep hown fun g e => h.block g (hown.lt g e).2 (fun e2 => hgo g e e2.symm)
      obtain ⟨g, rfl, hg1, hg2, cg, _⟩ := own_int (hownW w3 hbt3) hkt
      obtain ⟨t, ht⟩ : ∃ t, ol[k] = t := ⟨_, rfl⟩
      have htn : t < J.n := ht ▸ hord.lt _ (List.getElem_mem hkt)
      rw [ht] at cg
      obtain ⟨b, off, aa, acap, rfl, hbB, f0, f1, f2, f3, h1, h2, hx⟩ := hin0.cells hB hb3 htn
      unfold maxLen at h2
      have hxw : ∀ wr, Below w.heap.size w wr → ∀ j (h : j < (J.aft t).length), ∃ ab ao, aa = some ⟨ab, ao, none⟩ ∧ ab < B ∧ wr.cell? ⟨ab, ao + j, none⟩ = some (.int .i64 (J.aft t)[j]) := fun wr hb j h => by
        obtain ⟨ab, ao, e1, e2, e3⟩ := hx j h
        exact ⟨ab, ao, e1, e2, by rw [World.cell?_of_block (w := w3) ((hb.block ab (by omega)).trans (hb3.block ab (by omega)).symm)]; exact e3⟩
      have hfw : ∀ wr, Below w.heap.size w wr → wr.cell? ⟨b, off + t * 4, none⟩ = some (.int .i64 (J.len t)) := fun wr hb => by rw [World.cell?_of_block (w := w3) ((hb.block b (by omega)).trans (hb3.block b (by omega)).symm)]; exact f0
      have HNX : Hid (∀ c, InS (J.gr.aft t) en (J.gr.aft t).length c → LongS J ol (k + 1) (Gr.put en t (c + J.gr.len t)) (max mo (c + J.gr.len t)) ∧ c ≤ k * 1000 ∧ en t = 0) := fun c h => by
        have := hlo.next hord hR hkt (c := c) (by rw [ht]; exact h)
        rw [ht] at this
        exact this
      have hah : ∀ a ∈ J.gr.aft t, a ≠ t := fun a ha e => by
        have h3 := hord.ahead k hkt a (by rw [ht]; exact ha)
        have h4 : ol[k] ∉ ol.take k := of_decide_eq_false (nodup_take hord.nd hkt)
        rw [ht] at h4
        exact h4 (e ▸ h3)
      have hent : en t = 0 := hlo.zero t (by have h4 : ol[k] ∉ ol.take k := of_decide_eq_false (nodup_take hord.nd hkt); rw [ht] at h4; exact h4)
      have henb := hlo.few
      have hlt := hR.len t htn
      have hgt := hR.aft t htn
      have hkb : k * 1000 ≤ 200000 := by omega
      have HT : Hid (ol[k] = t) := ht
      have hrow3' : w3.rowIs w.heap.size 3 J.n (fun i => .int .i64 ((Gr.put en t 0 i : Nat) : Int)) := hrow3.congr fun i _ => by
        by_cases e : i = t
        · subst e; rw [Gr.put_at, hent]
        · rw [Gr.put_ne _ _ e]
      clear ht hx hent hlo hown hrow3 f0 f1 f3
      go_wp2_with fail
      go_loopw [25] (fun jv wr => ∃ j c : Nat, j ≤ (J.aft t).length ∧ jv = .int .i64 j ∧ But (fun x => x = w.heap.size) w2 wr ∧ wr.rowIs w.heap.size 3 J.n (fun i => .int .i64 ((Gr.put en t c i : Nat) : Int)) ∧ InS (J.gr.aft t) en j c ∧ c ≤ k * 1000) (fun jv _ => (J.aft t).length - (intOf jv).toNat)
      case atStart => exact ⟨0, 0, Nat.zero_le _, rfl, hbt3, hrow3', inS_start _ _, Nat.zero_le _⟩
      case round =>
        rename World => w5
        clear hrow3' hbt3 cg f2
        obtain ⟨j, c, hj, rfl, hbt5, hrow5, hins, hcb⟩ := hrel
        have hb5 : Below w.heap.size w w5 := hb02.trans (hbt5.below (by omega) (fun x hx e => by omega))
        by_cases hjt : j < (J.aft t).length
        · obtain ⟨ab, ao, rfl, hab, ac⟩ := hxw w5 hb5 j hjt
          have hjt' : j < (J.gr.aft t).length := by show j < ((J.aft t).map Int.toNat).length; rw [List.length_map]; exact hjt
          have hgx := hgt _ (List.getElem_mem hjt)
          obtain ⟨x, hxe, hxn⟩ : ∃ x : Nat, (J.aft t)[j] = x ∧ x < J.n := ⟨(J.aft t)[j].toNat, by omega, by omega⟩
          have hxg : (J.gr.aft t)[j] = x := by show ((J.aft t).map Int.toNat)[j]'(by rw [List.length_map]; exact hjt) = x; rw [List.getElem_map, hxe]; omega
          have hins' := inS_next hins hjt'
          have hxt : x ≠ t := hah x (hxg ▸ List.getElem_mem hjt')
          rw [hxg] at hins'
          rw [hxe] at ac
          have hex := henb.1 x
          have c1 := hrow5.cell htn
          have c2 := hrow5.cell hxn
          have z1 := hrow5.frozen t
          have y1 := hrow5.lt
          rw [Gr.put_at] at c1
          rw [Gr.put_ne _ _ hxt] at c2
          obtain ⟨cm, hcm⟩ : ∃ cm : Nat, max c (en x) = cm := ⟨_, rfl⟩
          have hcmI : max (c : Int) (en x : Int) = cm := by omega
          rw [hcm] at hins'
          have hset := (hrow5.set t (.int .i64 (cm : Int))).congr (g := fun i => .int .i64 ((Gr.put en t cm i : Nat) : Int)) (fun i _ => by
            by_cases e : i = t
            · subst e; rw [if_pos rfl, Gr.put_at]
            · rw [if_neg e, Gr.put_ne _ _ e, Gr.put_ne _ _ e])
          have hbt6 : But (fun x => x = w.heap.size) w2 (w5.setCell ⟨w.heap.size, t, none⟩ (.int .i64 (cm : Int))) := hbt5.trans (But.set w5 _ _ _ rfl)
          have HI : Hid (InS (J.gr.aft t) en (j + 1) cm ∧ cm ≤ k * 1000) := ⟨hins', by omega⟩
          have HCM : Hid (max c (en x) = cm) := hcm
          clear hcm
          have HXE : Hid ((J.aft t)[j] = x) := hxe
          clear hins hins' hxe hxg hxw hfw hgx
          go_upto_region 9 with fail
          go_big_region
          have e : (if c < en x then (en x : Int) else (c : Int)) = cm := by have := HCM.out; split <;> omega
          rw [e]
          clear e c1 c2 z1 y1 hcmI hbt5 hb5 hrow5
          go_wp2_with fail
          go_roundw
          case rel => exact ⟨j + 1, cm, by omega, by go_num, hbt6.trans (But.drew _), hset.drew, HI.out.1, HI.out.2⟩
          case measure => simp [intOf]; omega
        · obtain rfl : j = (J.aft t).length := by omega
          have hlw : (J.gr.aft t).length = (J.aft t).length := List.length_map _
          rw [← hlw] at hins
          obtain ⟨hlo', _, _⟩ := HNX.out c hins
          have f0 := hfw w5 hb5
          obtain ⟨cl, hcl⟩ : ∃ cl : Nat, c + J.gr.len t = cl := ⟨_, rfl⟩
          rw [hcl] at hlo'
          rw [gr_len] at hcl
          have hclI : (c : Int) + J.len t = cl := by omega
          have hmo := henb.2
          have c1 := hrow5.cell htn
          have z1 := hrow5.frozen t
          have y1 := hrow5.lt
          rw [Gr.put_at] at c1
          have hset := (hrow5.set t (.int .i64 (cl : Int))).congr (g := fun i => .int .i64 ((Gr.put en t cl i : Nat) : Int)) (fun i _ => by
            by_cases e : i = t
            · subst e; rw [if_pos rfl, Gr.put_at]
            · rw [if_neg e, Gr.put_ne _ _ e, Gr.put_ne _ _ e])
          have hbt6 : But (fun x => x = w.heap.size) w2 (w5.setCell ⟨w.heap.size, t, none⟩ (.int .i64 (cl : Int))) := hbt5.trans (But.set w5 _ _ _ rfl)
          have hclb : cl ≤ 300000 := by omega
          obtain ⟨mm, hmm⟩ : ∃ mm : Nat, max mo cl = mm := ⟨_, rfl⟩
          rw [hmm] at hlo'
          have HMM : Hid (max mo cl = mm) := hmm
          have HLO : Hid (LongS J ol (k + 1) (Gr.put en t cl) mm) := hlo'
          have HCL : Hid (c + (J.len t).toNat = cl) := hcl
          clear hcl hmm hlo' hins hxw hfw hlw
          go_upto_region 11 with fail
          go_big_region
          have c6 := hset.drew.cell htn
          obtain ⟨W6, hW6⟩ : ∃ X, (w5.setCell ⟨w.heap.size, t, none⟩ (.int .i64 (cl : Int))).drew = X := ⟨_, rfl⟩
          have hbt6' := hbt6.trans (But.drew _)
          have hset' := hset.drew
          rw [Gr.put_at] at c6
          rw [hW6] at c6 hbt6' hset' ⊢
          clear hW6 hset hbt6 c1 z1 y1 hclI hbt5 hb5 hrow5 f0
          go_wp2_with fail
          have e : (if mo < cl then (cl : Int) else (mo : Int)) = mm := by have := HMM.out; split <;> omega
          rw [e]
          go_roundw
          case rel => exact ⟨k + 1, mm, _, by omega, rfl, by go_num, hbt6', hset', HLO.out⟩
          case measure => simp [intOf]; omega
    · obtain rfl : k = ol.length := by omega
      have hall : ∀ x, x < J.n → x ∈ ol := by
        refine hord.all ?_
        rcases Nat.lt_or_ge ol.length J.n with h | h
        · exact absurd hA (hord.cyc hg h)
        · omega
      have HS : Hid (Gr.Sums J.gr (Gr.sumN J.gr.len J.gr.n) mo) := hlo.sums hR hall hord.lt
      clear hall hlo hown
      go_wp2_with fail
      go_ret
      exact ⟨mo, rfl, HS.out, hb3⟩

theorem sumN_few {J : Jb} (hR : J.Right) : ∀ k, k ≤ J.n → Gr.sumN J.gr.len k ≤ k * 1000
  | 0, _ => by simp [Gr.sumN]
  | k + 1, h => by
    have h1 := sumN_few hR k (by omega)
    have h2 := hR.len k (by omega)
    have h3 : J.gr.len k ≤ 1000 := by rw [gr_len]; omega
    simp only [Gr.sumN]
    omega

set_option maxRecDepth 100000 in
set_option maxHeartbeats 1000000 in
theorem span_says : SpanSays := by
  intro J w B v hin hB hsm
  have K := check_any J w B v hin hB hsm
  obtain ⟨c, hch⟩ := chk_some J
  by_cases h0 : c = 0
  · subst h0
    obtain ⟨hR, hA⟩ := hch.right
    have hgb : J.Good ∧ ¬ J.Big := by
      rcases hch with ⟨_, h⟩ | ⟨_, _, h⟩ | ⟨_, _, _, h⟩ | ⟨h1, h2, _, _⟩
      · cases h
      · cases h
      · cases h
      · exact ⟨h1, h2⟩
    have hin0 := hin
    have KL : ∀ W, Below w.heap.size w W → Calls Try.prog 47 #[v] W (LongRes J W) := fun W hW => longest_any J W B v (hin.keep fun k hk => hW.block k (by omega)) (by have := hW.size; omega) hgb.1 hgb.2 hR hA hsm
    obtain ⟨a, cap, rfl, hl, hc, hq⟩ := hin
    clear hq
    unfold maxLen at hc
    have hn := hR.few
    go_enter Try.func23, Try.ntmps23
    go_wp2_with (go_at_call 19; refine K.mono ?_; rintro e w1 ⟨er, rfl, her, hb1⟩; obtain rfl := her.only hch)
    go_loopw [2, 14] (fun sv kv wr => ∃ k : Nat, k ≤ J.n ∧ sv = .int .i64 (Gr.sumN J.gr.len k) ∧ kv = .int .i64 k ∧ Below w.heap.size w wr) (fun _ kv _ => J.n - (intOf kv).toNat)
    case atStart => exact ⟨0, Nat.zero_le _, rfl, rfl, hb1⟩
    case round =>
      rename World => w3
      obtain ⟨k, hk, rfl, rfl, hb3⟩ := hrel
      have hsf := sumN_few hR k hk
      by_cases hkt : k < J.n
      · obtain ⟨b, off, aa, acap, rfl, hbB, f0, f1, f2, f3, h1, h2, hx⟩ := hin0.cells hB hb3 hkt
        have hb4 := fun ob => hb3.alloc hb3.size ob
        have hlk := hR.len k hkt
        obtain ⟨s, hs⟩ : ∃ s : Nat, Gr.sumN J.gr.len k = s := ⟨_, rfl⟩
        obtain ⟨s', hs'⟩ : ∃ s' : Nat, Gr.sumN J.gr.len (k + 1) = s' := ⟨_, rfl⟩
        have hss : (s : Int) + J.len k = s' := by
          have e : Gr.sumN J.gr.len (k + 1) = Gr.sumN J.gr.len k + (J.len k).toNat := rfl
          omega
        rw [hs] at hsf
        have HS' : Hid (Gr.sumN J.gr.len (k + 1) = s') := hs'
        rw [hs]
        clear hx hs hs' KL
        go_wp2_with fail
        go_roundw
        case rel => exact ⟨k + 1, by omega, by rw [HS'.out], by go_num, hb4 _⟩
        case measure => simp [intOf]; omega
      · obtain rfl : k = J.n := by omega
        have KL3 := KL w3 hb3
        obtain ⟨s, hs⟩ : ∃ s : Nat, Gr.sumN J.gr.len J.n = s := ⟨_, rfl⟩
        rw [hs]
        have HS : Hid (Gr.sumN J.gr.len J.n = s) := hs
        clear hs
        go_wp2_with (go_at_call 47; refine KL3.mono ?_; rintro e w5 ⟨y, rfl, hsum, hb5⟩)
        exact bodyPost_ret (v := .tuple #[.int .i64 s, .int .i64 y, .int .i64 0]) (by simp [results, Try.results23, go_sem]) rfl ⟨s, y, 0, rfl, ⟨hch, fun h => absurd rfl h, fun _ => ⟨s, y, rfl, rfl, by rw [← HS.out]; exact hsum⟩⟩, hb3.trans (hb5.mono hb3.size)⟩
  · obtain ⟨a, cap, rfl, hr⟩ := hin
    clear hr
    have hd : (c == 0) = false := by simpa using h0
    have HC : Hid (c ≠ 0) := h0
    clear h0
    go_enter Try.func23, Try.ntmps23
    go_wp2_with (go_at_call 19; refine K.mono ?_; rintro e w1 ⟨er, rfl, her, hb1⟩; obtain rfl := her.only hch)
    exact bodyPost_ret (v := .tuple #[.int .i64 0, .int .i64 0, .int .i64 er]) (by simp [results, Try.results23, go_sem]) rfl ⟨0, 0, er, rfl, ⟨hch, fun _ => ⟨rfl, rfl⟩, fun h => absurd h HC.out⟩, hb1⟩

#print axioms longest_any
#print axioms span_says
end Go.Proofs.Ytgmemndjclhheae
