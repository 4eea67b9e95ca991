/- A slice appended onto a row of another slice type with the same elements: as onto one of its own type. What the statement on indices asks first: its own copy of the heights, and what is said of them. What the reference's Minus answers. What the reference's IndexOf answers: where a face stands. -/
import Derived.Test.YtmndhclmhjmbpaaGreatDoorBase
import Derived.Laws.OwnMore
import Derived.Test.YtmndhclmhjmbpaaGreatDoorIdxRefs
import Derived.Test.YtmndhclmhjmbpaaGreatDoorPartsMath
import Derived.Test.YtmndhclmhjmbpaaGreatDoorRefJoin
import Derived.Test.YtmndhclmhjmbpaaGreatDoorFacetsOf
namespace Go.Proofs.YtmndhclmhjmbpaaGreatDoor
open Go.RowKit Go.Sort

theorem append_types {P : Program} {t u ty e e' : TypeId} (ht : P.underlying t = some (.slice e)) (hu : P.underlying u = some (.slice e')) (a : Option Addr) (n c : Nat) (x : Value) (w : World) : (Builtin.append_ #[t, u] ty #[.slice a n c, x]).run P w = (Builtin.append_ #[t, t] ty #[.slice a n c, x]).run P w := by
  unfold Builtin.append_
  simp [go_sem, run_underlying ht, run_underlying hu, sizeOf]

theorem own_slice {W : World} {base : Nat} {t : TypeId} {k : Nat} {v : Value} {n : Nat} {xs : List Value} (h : W.ownsRow base t k v n xs) : ∃ a cap, v = .slice a n cap := by
  rcases h.2 with ⟨rfl, rfl⟩ | ⟨g, cap, cur, rfl, _⟩
  · exact ⟨_, _, rfl⟩
  · exact ⟨_, _, rfl⟩

/-- As wpList_append_slice, of two types. -/
theorem wpList_append_slice2 {P : Program} {w : World} {ops : Array Oper} {rest : List Oper} {o : Oper} {a : Act} {Q : Exit → Act → World → Prop} (hgd : o.guard = none) (s x : Operand) (t u' e' : TypeId) (hu' : P.underlying u' = some (.slice e'))
    (ho : o.op = .call { callee := .builtin .append, args := #[s, x], argTypes := #[t, u'] })
    (base : Nat) (e : TypeId) (i : TypeInfo) (z : Value) (bytes : Nat) (ht : P.underlying t = some (.slice e)) (hi : P.info? e = some i) (hz : i.zero = some z)
    (hsize : i.size = 1) (hby : i.bytes = bytes) (hzs : z.cells.size = 1)
    (v : Value) (n : Nat) (xs : List Value) (hs : a.eval s = v) (hown : w.ownsRow base e 1 v n xs)
    {S : Nat → Prop} (u : Value) (news : List Value) (hx : a.eval x = u) (hu : SliceIn S w u news) (h1 : ∀ c ∈ news, c.oneCell' = true)
    (hbytes : (n + news.length) * bytes ≤ 140737488355328) (h63 : n + news.length ≤ maxLen) (hbase : base ≤ w.heap.size)
    (h : ∀ v' w', w'.ownsRow base e 1 v' (n + news.length) (xs ++ news) → w.grownBy w' v.ownBlock → (v'.ownBlock = v.ownBlock ∨ v'.ownBlock = some w.heap.size) → wpList P ops Q rest (a.put o.dst v') w') : wpList P ops Q (o :: rest) a w := by
  obtain ⟨av, cv, rfl⟩ := own_slice hown
  obtain ⟨ao, cap, rfl, ⟨hc, hn⟩, hcs⟩ := hu
  refine wpList_plain hgd fun K hK => ?_
  cases ao with
  | none =>
    obtain rfl := hn rfl
    have hnil : news = [] := List.eq_nil_of_length_eq_zero (by omega)
    subst hnil
    have hr := run_append_owned_none (P := P) (w := w) base t o.type e i 1 ht hi _ n xs hown
    rw [← append_types (u := u') ht hu'] at hr
    unfold Oper.wp execOp
    simp only [ho, resolve, invoke, builtin, Sem.run_bind, Sem.run_pure, Result.andThen_ok, List.map_toArray, List.map_cons, List.map_nil, hs, hx, List.length_nil, hr]
    exact hK _ _ (h _ w (by simpa using hown) ⟨rfl, rfl, rfl, Nat.le_refl _, fun _ _ _ => rfl⟩ (.inl rfl))
  | some ad =>
    obtain ⟨v', w', hr, h2, h3, h4, h5⟩ := run_append_own_at (P := P) w base t o.type e i z 1 bytes ht hi hz hsize hby hzs (by decide) _ n xs hown ad news.length cap news (by simp) (fun j c hj => by
      have hl : 0 < news.length := by
        have := (List.getElem?_eq_some_iff.1 hj).1
        omega
      obtain ⟨b, off, e1, _, e3⟩ := hcs hl
      cases e1
      rw [Addr.add_lit]
      exact e3 j c hj) h1 h63 hbytes hbase
    rw [← append_types (u := u') ht hu'] at hr
    unfold Oper.wp execOp
    simp only [ho, resolve, invoke, builtin, Sem.run_bind, Sem.run_pure, Result.andThen_ok, List.map_toArray, List.map_cons, List.map_nil, hs, hx, hr]
    exact hK _ _ (h v' w' h2 h3 h5)

end Go.Proofs.YtmndhclmhjmbpaaGreatDoor

namespace Go.Proofs.YtmndhclmhjmbpaaGreatDoor
open Go.RowKit Go.Sort Go.Lib

set_option maxRecDepth 100000 in
theorem ints5_ (vh : Value) (h : List Int) (w : World) (hh : Ints w vh h) (hl : h.length ≤ 1000) :
    Calls Tryz.prog 10 #[vh] w fun e w' => (∃ v, e = .returned v ∧ Ints w' v h) ∧ Below w.heap.size w w' := by
  obtain ⟨i0, hi0, hz0, hz1, hz2⟩ := info_parts Tryz.info3
  have hh0 := hh
  obtain ⟨ah, ch, rfl, -, -⟩ := hh.open_
  have hs : SliceIn anyBlock w (.slice ah h.length ch) (h.map (Value.int .i64)) := hh0
  have hone : ∀ c ∈ h.map (Value.int .i64), c.oneCell' = true := fun c hc => by
    obtain ⟨x, _, rfl⟩ := List.mem_map.1 hc
    rfl
  have own0 : w.ownsRow w.heap.size 3 1 (.slice none 0 0) 0 [] := World.ownsRow_nil _ _ _ _
  have hml : (h.map (Value.int .i64)).length ≤ 1000 := by rw [List.length_map]; exact hl
  obtain ⟨n, hn⟩ : ∃ n, h.length = n := ⟨_, rfl⟩
  obtain ⟨ns, hns⟩ : ∃ ns, h.map (Value.int .i64) = ns := ⟨_, rfl⟩
  have HNS : Hid (h.map (Value.int .i64) = ns ∧ ns.length = n) := ⟨hns, by rw [← hns, List.length_map, hn]⟩
  rw [hn, hns] at hs
  rw [hns] at hone hml
  rw [hn]
  clear hh hh0 hn hns hl
  go_enter Tryz.func10, Tryz.ntmps10
  go_wp2_with (first
    | (at_builtin; refine wpList_append_slice rfl (.tmp 4) (.tmp 5) 23 rfl _ 3 i0 (.int .i64 0) 8 Tryz.underlying23 hi0 hz0 hz1 hz2 rfl _ _ _ rfl own0 _ ns rfl hs hone (by simp; omega) (by unfold maxLen; simp; omega) (Nat.le_refl _) ?_; intro v4 w4 hown4 hg4 hl4)
    | fail)
  go_ret
  refine ⟨⟨v4, rfl, ?_⟩, (Below.refl _ w).grown hg4 (Nat.le_refl _) (fun b hb => (own0.lt b hb).1)⟩
  have h3 := slice_of_owns (S := anyBlock) hown4 (fun _ _ _ => trivial)
  rw [List.nil_append, ← HNS.out.1] at h3
  exact h3

set_option maxRecDepth 100000 in
theorem high_bad (vl vh : Value) (c : Int) (w : World) (hc : 0 < c)
    (hec : Calls Tryz.prog 15 #[vl] w fun e w' => e = .returned (.int .i64 c) ∧ Below w.heap.size w w') :
    Calls Tryz.prog 7 #[vl, vh] w fun e w' => (∃ u, e = .returned (.tuple #[.int .i64 c, u])) ∧ Below w.heap.size w w' := by
  go_enter Tryz.func7, Tryz.ntmps7
  go_wp2_with fail
  refine hec.mono ?_
  clear hec
  rintro e V1 ⟨rfl, hB⟩
  have HB := Hid.mk' hB
  clear hB
  go_wp2_with fail
  go_ret2
  exact ⟨⟨_, rfl⟩, HB.out⟩

set_option maxRecDepth 100000 in
theorem high_good {all : List (List Int)} (vl vh : Value) (h : List Int) (w : World)
    (hec : Calls Tryz.prog 15 #[vl] w fun e w' => e = .returned (.int .i64 0) ∧ Below w.heap.size w w')
    (hcl : ∀ V, Below w.heap.size w V → Calls Tryz.prog 16 #[vl] V fun e w' => (∃ u, e = .returned (.tuple #[u, .int .i64 0]) ∧ Rows w' u all) ∧ Below V.heap.size V w')
    (hhe : ∀ V u, Below w.heap.size w V → Rows V u all → Calls Tryz.prog 27 #[u, vh] V fun e w' => (∃ c : Int, e = .returned (.int .i64 c) ∧ ((c = 0 ∧ HOk (vertI all) h) ∨ (c = 3 ∧ ¬ HOk (vertI all) h))) ∧ Below V.heap.size V w') :
    Calls Tryz.prog 7 #[vl, vh] w fun e w' => (∃ (c : Int) (u : Value), e = .returned (.tuple #[.int .i64 c, u]) ∧ Rows w' u all ∧ ((c = 0 ∧ HOk (vertI all) h) ∨ (c = 3 ∧ ¬ HOk (vertI all) h))) ∧ Below w.heap.size w w' := by
  have HCL := Hid.mk' hcl
  have HHE := Hid.mk' hhe
  clear hcl hhe
  go_enter Tryz.func7, Tryz.ntmps7
  go_wp2_with fail
  refine hec.mono ?_
  clear hec
  rintro e V1 ⟨rfl, hB⟩
  have HB := Hid.mk' hB
  have hC := HCL.out V1 hB
  clear hB HCL
  go_wp2_with fail
  refine hC.mono ?_
  clear hC
  rintro e V2 ⟨⟨u, rfl, hu⟩, hV⟩
  have HB2 : Hid (Below w.heap.size w V2) := HB.out.trans (hV.mono HB.out.size)
  have hH := HHE.out V2 u HB2.out hu
  have HU : Hid (Rows V2 u all) := hu
  clear hV hu HHE HB
  go_wp2_with fail
  refine hH.mono ?_
  clear hH
  rintro e V3 ⟨⟨c, rfl, hc⟩, hV⟩
  have HB3 : Hid (Below w.heap.size w V3) := HB2.out.trans (hV.mono HB2.out.size)
  have HU3 : Hid (Rows V3 u all) := HU.out.below hV
  have HC := Hid.mk' hc
  clear hV hc HU HB2
  go_wp2_with fail
  go_ret2
  exact ⟨⟨c, u, rfl, HU3.out, HC.out⟩, HB3.out⟩

end Go.Proofs.YtmndhclmhjmbpaaGreatDoor

namespace Go.Proofs.YtmndhclmhjmbpaaGreatDoor
open Go.RowKit Go.Sort

theorem minusI_succ {x : List Int} {k : Nat} (hk : k < x.length) (f : List Int) : minusI (x.take (k + 1)) f = minusI (x.take k) f ++ (if f.contains (x[k]?.getD 0) = true then [] else [x[k]?.getD 0]) := by
  unfold minusI
  rw [List.take_add_one, List.getElem?_eq_getElem hk, List.filter_append, Option.getD_some]
  congr 1
  cases h : f.contains x[k] with
  | false => rw [if_neg (by decide)]; simp only [Option.toList, List.filter_cons, h, Bool.not_false, if_true, List.filter_nil]
  | true => rw [if_pos rfl]; simp only [Option.toList, List.filter_cons, h, Bool.not_true, Bool.false_eq_true, if_false, List.filter_nil]
theorem minusI_length (x f : List Int) : (minusI x f).length ≤ x.length := List.length_filter_le _ _

set_option maxRecDepth 100000 in
set_option maxHeartbeats 1000000 in
theorem minus_ (vx vf : Value) (x f : List Int) (w : World) (hx : Ints w vx x) (hf : Ints w vf f) (hxl : x.length ≤ 400) (hfl : f.length ≤ 400) :
    Calls Tryz.prog 63 #[vx, vf] w fun e w' => ∃ v, e = .returned v ∧ IntsIn (fun b => w.heap.size ≤ b) w' v (minusI x f) ∧ Below w.heap.size w w' := by
  obtain ⟨j0, hj0, hy0, hy1, hy2⟩ := info_parts Tryz.info3
  have HF : Hid (Ints w vf f) := hf
  obtain ⟨ax, cx, rfl, -, hcx⟩ := hx.open_
  obtain ⟨af, cf, rfl, -, -⟩ := hf.open_
  clear hx hf
  go_enter Tryz.func63, Tryz.ntmps63
  go_wp2
  go_loopw [5, 6] (fun v p W => ∃ k : Nat, k ≤ x.length ∧ p = .int .i64 k ∧ W.ownsRow w.heap.size 3 1 v (minusI (x.take k) f).length ((minusI (x.take k) f).map (Value.int .i64)) ∧ Below w.heap.size w W)
    (fun _ p _ => x.length - (intOf p).toNat)
  case atStart => exact ⟨0, by omega, rfl, by simp [minusI]; exact World.ownsRow_nil _ _ _ _, Below.refl _ _⟩
  case round =>
    obtain ⟨k, hk, rfl, hown, hB⟩ := hrel
    have hml : (minusI (x.take k) f).length ≤ 400 := by have := minusI_length (x.take k) f; simp at this; omega
    obtain ⟨t, ht⟩ : ∃ t, minusI (x.take k) f = t := ⟨_, rfl⟩
    rw [ht] at hown hml
    have HT : Hid (minusI (x.take k) f = t) := ht
    have hbs := hB.size
    clear ht
    by_cases hlt : k < x.length
    · obtain ⟨b, o, rfl, -, hb, c⟩ := hcx (by omega)
      have g0 := (hB.cell (p := ⟨b, o + k, none⟩) hb).trans (c k hlt)
      have hst := minusI_succ hlt f
      obtain ⟨y, hye⟩ : ∃ y, x[k]?.getD 0 = y := ⟨_, rfl⟩
      rw [hye] at g0 hst
      rw [HT.out] at hst
      have HST : Hid (minusI (x.take (k + 1)) f = t ++ (if f.contains y = true then [] else [y])) := hst
      have hco := contains_ (.slice af f.length cf) f y wr (HF.out.below hB) (by omega)
      clear hye hst c hcx
      cases hq : f.contains y with
      | true =>
        rw [hq] at hco
        have HQ : Hid (f.contains y = true) := hq
        clear hq
        go_wp2_with fail
        refine hco.mono ?_
        clear hco
        rintro e w2 ⟨rfl, q, hw2⟩
        have hB2 : Below w.heap.size w w2 := by rw [hw2]; exact hB.trans ⟨rfl, rfl, rfl, Nat.le_refl _, fun _ _ => rfl⟩
        have ho2 : w2.ownsRow w.heap.size 3 1 u5 t.length (t.map (Value.int .i64)) := by rw [hw2]; exact hown
        clear hw2 hown
        go_wp2
        go_roundw
        case rel => exact ⟨k + 1, by omega, by go_num, by rw [HST.out, if_pos HQ.out, List.append_nil]; exact ho2, hB2⟩
        case measure => simp [intOf]; omega
      | false =>
        rw [hq] at hco
        have HQ : Hid (¬ f.contains y = true) := by
          show ¬ f.contains y = true
          rw [hq]; decide
        clear hq
        have g1 : ∀ q, (wr.drewN q).cell? ⟨b, o + k, none⟩ = some (.int .i64 y) := fun q => g0
        go_wp2_with fail
        refine hco.mono ?_
        clear hco
        rintro e w2 ⟨rfl, q, hw2⟩
        have hB2 : Below w.heap.size w w2 := by rw [hw2]; exact hB.trans ⟨rfl, rfl, rfl, Nat.le_refl _, fun _ _ => rfl⟩
        have ho2 : w2.ownsRow w.heap.size 3 1 u5 t.length (t.map (Value.int .i64)) := by rw [hw2]; exact hown
        have g2 : w2.cell? ⟨b, o + k, none⟩ = some (.int .i64 y) := by rw [hw2]; exact g1 q
        have hbs2 := hB2.size
        clear hw2 hown g1
        go_wp2_with (first
          | (at_builtin; refine wpList_append_slice rfl (.tmp 22) (.tmp 27) 23 rfl w.heap.size 3 j0 (.int .i64 0) 8 Tryz.underlying23 hj0 hy0 hy1 hy2 rfl _ _ _ rfl (ho2.alloc _) _ [.int .i64 y] rfl (slice_one _ _ _) (by simp [Value.oneCell']) (by simp; omega) (by unfold maxLen; simp; omega) (by simp; omega) ?_; intro v3 w4 hown3 hg3 hl3)
          | go_in)
        (try go_frame)
        go_roundw
        case rel => exact ⟨k + 1, by omega, by go_num, by rw [HST.out, if_neg HQ.out]; simpa using hown3, (hB2.alloc hbs2 _).grown hg3 (by simp; omega) (fun j hj => (ho2.lt j hj).1)⟩
        case measure => simp [intOf]; omega
    · obtain rfl : k = x.length := by omega
      have HTX : Hid (minusI x f = t) := by
        have := HT.out
        rwa [List.take_length] at this
      have HI : Hid (IntsIn (fun b => w.heap.size ≤ b) wr u5 t) := slice_of_owns hown (fun b hb _ => hb)
      clear hcx hown
      go_wp2
      go_ret
      exact ⟨_, rfl, by rw [HTX.out]; exact HI.out, hB⟩

end Go.Proofs.YtmndhclmhjmbpaaGreatDoor

namespace Go.Proofs.YtmndhclmhjmbpaaGreatDoor
open Go.RowKit Go.Sort

set_option maxRecDepth 100000 in
theorem index_of (va vf : Value) (all : List (List Int)) (f : List Int) (w : World) (ha : Rows w va all) (hf : Ints w vf f) (hl : all.length ≤ 1000) (hx : ∀ x ∈ all, x.length ≤ 1000000) :
    Calls Tryz.prog 42 #[va, vf] w fun e w' => ∃ i : Int, e = .returned (.int .i64 i) ∧ (0 ≤ i ↔ f ∈ all) ∧ -1 ≤ i ∧ ∃ q, w' = w.drewN q := by
  obtain ⟨a, ca, rfl, -, hc⟩ := ha.open_
  have HX : Hid (∀ x ∈ all, x.length ≤ 1000000) := hx
  have HFI : Hid (Ints w vf f) := hf
  obtain ⟨af, cf, rfl, -, -⟩ := hf.open_
  clear hx ha hf
  go_enter Tryz.func42, Tryz.ntmps42
  go_wp2
  go_loopw [5] (fun p wr => ∃ k n : Nat, k ≤ all.length ∧ p = .int .i64 k ∧ wr = w.drewN n ∧ ∀ x ∈ all.take k, x ≠ f)
    (fun p _ => all.length - (intOf p).toNat)
  case atStart => exact ⟨0, 0, by omega, rfl, rfl, by simp⟩
  case round =>
    obtain ⟨k, n, hk, rfl, hw, hno⟩ := hrel
    have HW : Hid (wr = w.drewN n) := hw
    have HN : Hid (∀ x ∈ all.take k, x ≠ f) := hno
    by_cases hlt : k < all.length
    · obtain ⟨b, o, rfl, -, hb, c⟩ := hc (by omega)
      obtain ⟨a1, p1, g1, i1⟩ := c k hlt
      have hlen : (all[k]?.getD []).length ≤ 1000000 := HX.out _ (by rw [List.getElem?_eq_getElem hlt]; simp)
      have hmm : all[k]?.getD [] ∈ all := by rw [List.getElem?_eq_getElem hlt]; simp
      obtain ⟨x, hxe⟩ : ∃ x, all[k]?.getD [] = x := ⟨_, rfl⟩
      rw [hxe] at g1 i1 hlen hmm
      have g2 : wr.cell? ⟨b, o + k, none⟩ = some (.slice a1 x.length p1) := by rw [hw]; exact g1
      have hsi := same_ints (.slice a1 x.length p1) (.slice af f.length cf) x f wr (by rw [hw]; exact i1) (by rw [hw]; exact HFI.out) hlen
      have HXE : Hid (all[k]?.getD [] = x) := hxe
      clear hxe i1 g1 hc c hw hno
      by_cases he : x = f
      · rw [decide_eq_true he] at hsi
        have HM : Hid (f ∈ all) := by rw [← he]; exact hmm
        clear he
        go_wp2_with fail
        refine hsi.mono ?_
        rintro e w2 ⟨rfl, q, rfl⟩
        clear hsi
        go_wp2
        go_ret
        exact ⟨k, rfl, ⟨fun _ => HM.out, fun _ => by omega⟩, by omega, n + q, by rw [HW.out, World.drewN_drewN]⟩
      · rw [decide_eq_false he] at hsi
        have HNE : Hid (¬ x = f) := he
        clear he
        go_wp2_with fail
        refine hsi.mono ?_
        rintro e w2 ⟨rfl, q, rfl⟩
        clear hsi
        go_wp2
        go_roundw
        case rel =>
          refine ⟨k + 1, n + q, by omega, by go_num, by rw [HW.out, World.drewN_drewN], fun y hy => ?_⟩
          rw [List.take_add_one, List.getElem?_eq_getElem hlt] at hy
          rcases List.mem_append.1 hy with h | h
          · exact HN.out y h
          · have e : all[k] = x := by have := HXE.out; rwa [List.getElem?_eq_getElem hlt, Option.getD_some] at this
            simp at h; rw [h, e]; exact HNE.out
        case measure => simp [intOf]; omega
    · obtain rfl : k = all.length := by omega
      have hno' := HN.out
      rw [List.take_length] at hno'
      have HNN : Hid (∀ x ∈ all, x ≠ f) := hno'
      clear hc hno hno'
      go_wp2
      go_ret
      exact ⟨-1, rfl, ⟨fun h => by omega, fun h => absurd rfl (HNN.out f h)⟩, by omega, n, rfl⟩

end Go.Proofs.YtmndhclmhjmbpaaGreatDoor
