/- The reference's IndexOf of a face that is there: where it stands. The reference's CupOf: faces whose ends are among the given ones. What the reference's TopOf answers. The reference's RingOf: what it counts, and how many rows a span has. -/
import Derived.Test.YtldknhganoiajaaGreatDoorMade
import Derived.Test.YtldknhganoiajaaGreatDoorCupRow
import Derived.Test.YtldknhganoiajaaGreatDoorCupRefSpan
import Derived.Test.YtldknhganoiajaaGreatDoorCupRefDelta
import Derived.Test.YtldknhganoiajaaGreatDoorMathV
import Derived.Test.YtldknhganoiajaaGreatDoorRefC
import Derived.Test.YtldknhganoiajaaGreatDoorCupRefCls
import Derived.Test.YtldknhganoiajaaGreatDoorCupRingP
namespace Go.Proofs.YtldknhganoiajaaGreatDoor
open Go.RowKit Go.Sort

theorem idx_first : ∀ {L : List (List Int)} {f : List Int} {k : Nat}, L[k]? = some f → (∀ x ∈ L.take k, x ≠ f) → L.idxOf f = k
  | [], f, k, h, _ => by simp at h
  | a :: L, f, 0, h, _ => by simp at h; subst h; simp
  | a :: L, f, k + 1, h, hn => by
    have hne : a ≠ f := hn a (by simp)
    have ih := idx_first (L := L) (f := f) (k := k) (by simpa using h) (fun x hx => hn x (by simp [hx]))
    rw [List.idxOf_cons, beq_false_of_ne hne, cond_false, ih]

set_option maxRecDepth 100000 in
theorem index_at (va vf : Value) (all : List (List Int)) (f : List Int) (w : World) (ha : Rows w va all) (hf : Ints w vf f) (hl : all.length ≤ 1000) (hx : ∀ x ∈ all, x.length ≤ 1000000) (hin : f ∈ all) :
    Calls Tryz.prog 48 #[va, vf] w fun e w' => e = .returned (.int .i64 (all.idxOf f : Int)) ∧ ∃ q, w' = w.drewN q := by
  obtain ⟨a, ca, rfl, -, hc⟩ := ha.open_
  have HX : Hid (∀ x ∈ all, x.length ≤ 1000000) := hx
  have HFI : Hid (Ints w vf f) := hf
  obtain ⟨af, cf, rfl, -, -⟩ := hf.open_
  have HIN := Hid.mk' hin
  clear hx ha hf hin
  go_enter Tryz.func48, Tryz.ntmps48
  go_wp2
  go_loopw [5] (fun p wr => ∃ k n : Nat, k ≤ all.length ∧ p = .int .i64 k ∧ wr = w.drewN n ∧ ∀ x ∈ all.take k, x ≠ f)
    (fun p _ => all.length - (intOf p).toNat)
  case atStart => exact ⟨0, 0, by omega, rfl, rfl, by simp⟩
  case round =>
    obtain ⟨k, n, hk, rfl, hw, hno⟩ := hrel
    have HW : Hid (wr = w.drewN n) := hw
    have HN : Hid (∀ x ∈ all.take k, x ≠ f) := hno
    by_cases hlt : k < all.length
    · obtain ⟨b, o, rfl, -, hb, c⟩ := hc (by omega)
      obtain ⟨a1, p1, g1, i1⟩ := c k hlt
      have hlen : (all[k]?.getD []).length ≤ 1000000 := HX.out _ (by rw [List.getElem?_eq_getElem hlt]; simp)
      have hmm : all[k]?.getD [] ∈ all := by rw [List.getElem?_eq_getElem hlt]; simp
      obtain ⟨x, hxe⟩ : ∃ x, all[k]?.getD [] = x := ⟨_, rfl⟩
      rw [hxe] at g1 i1 hlen hmm
      have g2 : wr.cell? ⟨b, o + k, none⟩ = some (.slice a1 x.length p1) := by rw [hw]; exact g1
      have hsi := same_ints (.slice a1 x.length p1) (.slice af f.length cf) x f wr (by rw [hw]; exact i1) (by rw [hw]; exact HFI.out) hlen
      have HXE : Hid (all[k]?.getD [] = x) := hxe
      clear hxe i1 g1 hc c hw hno
      by_cases he : x = f
      · rw [decide_eq_true he] at hsi
        have HM : Hid (all.idxOf f = k) := idx_first (by have := HXE.out; rw [List.getElem?_eq_getElem hlt, Option.getD_some] at this; rw [List.getElem?_eq_getElem hlt, this, he]) HN.out
        clear he
        go_wp2_with fail
        refine hsi.mono ?_
        rintro e w2 ⟨rfl, q, rfl⟩
        clear hsi
        go_wp2
        go_ret
        exact ⟨by rw [HM.out]; rfl, n + q, by rw [HW.out, World.drewN_drewN]⟩
      · rw [decide_eq_false he] at hsi
        have HNE : Hid (¬ x = f) := he
        clear he
        go_wp2_with fail
        refine hsi.mono ?_
        rintro e w2 ⟨rfl, q, rfl⟩
        clear hsi
        go_wp2
        go_roundw
        case rel =>
          refine ⟨k + 1, n + q, by omega, by go_num, by rw [HW.out, World.drewN_drewN], fun y hy => ?_⟩
          rw [List.take_add_one, List.getElem?_eq_getElem hlt] at hy
          rcases List.mem_append.1 hy with h | h
          · exact HN.out y h
          · have e : all[k] = x := by have := HXE.out; rwa [List.getElem?_eq_getElem hlt, Option.getD_some] at this
            simp at h; rw [h, e]; exact HNE.out
        case measure => simp [intOf]; omega
    · obtain rfl : k = all.length := by omega
      have hno' := HN.out
      rw [List.take_length] at hno'
      exact absurd rfl (hno' f HIN.out)

end Go.Proofs.YtldknhganoiajaaGreatDoor

namespace Go.Proofs.YtldknhganoiajaaGreatDoor
open Go.RowKit Go.Sort

theorem IntsIn.upto {S : Nat → Prop} {w : World} {a : Option Addr} {n cap : Nat} {xs : List Int} (h : IntsIn S w (.slice a n cap) xs) {k : Nat} (hk : k ≤ xs.length) : IntsIn S w (.slice a k cap) (xs.take k) := by
  unfold IntsIn at h ⊢
  rw [List.map_take]
  exact h.upto (by simpa using hk)
theorem IntsIn.behind_at {S : Nat → Prop} {w : World} {b o n cap : Nat} {xs : List Int} (h : IntsIn S w (.slice (some ⟨b, o, none⟩) n cap) xs) {k : Nat} (hk : k ≤ xs.length) : IntsIn S w (.slice (some ⟨b, o + k, none⟩) (n - k) (cap - k)) (xs.drop k) := by
  unfold IntsIn at h ⊢
  rw [List.map_drop]
  have := SliceIn.behind_at h (k := k) (by simpa using hk)
  simpa using this

set_option maxRecDepth 100000 in
set_option maxHeartbeats 2000000 in
theorem cupOf_ {l : List (List Int)} (va vf vg : Value) (all : List (List Int)) (hg : Good l all) (i k : Nat) (hi7 : i ≤ 100) (hk7 : k ≤ 100) (f g : List Int) (w : World) (ha : Rows w va all) (hl : all.length ≤ 60) (hx : ∀ x ∈ all, x.length ≤ 1000) (hf : Ints w vf f) (hfl : f.length ≤ 60) (hgi : Ints w vg g) (hgl : g.length ≤ 60) :
    Calls Tryz.prog 27 #[va, .int .i64 (i : Int), vf, .int .i64 (k : Int), vg] w fun e w' => ∃ v, e = .returned v ∧ IntsIn (fun b => w.heap.size ≤ b) w' v (natsI (cupL all i k f g)) ∧ Below w.heap.size w w' := by
  obtain ⟨i0, hi, hz0, hz1, hz2⟩ := info_parts Tryz.info3
  have ecast : ((i : Int) + (k : Int)) = ((i + k : Nat) : Int) := by omega
  have HOF : Hid (∀ (d : Int) W, Below w.heap.size w W → Calls Tryz.prog 42 #[va, .int .i64 d] W fun e w' => ∃ v, e = .returned v ∧ Rows w' v (ofDim all d) ∧ Below W.heap.size W w') := fun d W hW => of_dim va all d W (ha.below hW) (by omega) hx
  have HE := Hid.mk' ecast
  have HFG := Hid.mk' (And.intro hf hgi)
  have HXX := Hid.mk' hx
  have HG := Hid.mk' hg
  have HN60 : Hid (∀ d, (ofDim all d).length ≤ 60) := fun d => Nat.le_trans (ofDim_length _ _) hl
  obtain ⟨aa, ca, rfl, -, -⟩ := ha.open_
  obtain ⟨af, cf, rfl, -, -⟩ := hf.open_
  obtain ⟨ag, cg, rfl, -, -⟩ := hgi.open_
  obtain ⟨A0, hA0⟩ : ∃ A0, all.length = A0 := ⟨_, rfl⟩
  obtain ⟨mf, hmf⟩ : ∃ m, f.length = m := ⟨_, rfl⟩
  obtain ⟨mg, hmg⟩ : ∃ m, g.length = m := ⟨_, rfl⟩
  rw [hA0] at HOF ⊢
  rw [hmf, hmg] at HFG
  rw [hmf, hmg]
  have HL2 : Hid (f.length ≤ 60 ∧ g.length ≤ 60) := ⟨hfl, hgl⟩
  have hof1 := HOF.out (i : Int) w (Below.refl _ _)
  clear ha hf hgi hA0 hx hl ecast hmf hmg hg hfl hgl
  go_enter Tryz.func27, Tryz.ntmps27
  go_wp2_with fail
  refine hof1.mono ?_
  clear hof1
  rintro e W1 ⟨v1, rfl, hv1, hW1⟩
  have hof2 := HOF.out (k : Int) W1 hW1
  obtain ⟨a1, c1, rfl, -, -⟩ := hv1.open_
  have H1 := Hid.mk' (And.intro hv1 hW1)
  clear hv1 hW1
  go_wp2_with fail
  refine hof2.mono ?_
  clear hof2
  rintro e W2 ⟨v2, rfl, hv2, hW2⟩
  have hB2 := H1.out.2.trans (hW2.mono H1.out.2.size)
  have H2 := Hid.mk' (And.intro (H1.out.1.below hW2) (And.intro hv2 hB2))
  have hof3 := HOF.out ((i : Int) + (k : Int)) W2 hB2
  obtain ⟨a2, c2, rfl, -, -⟩ := hv2.open_
  clear hv2 hW2 hB2 H1
  go_wp2_with fail
  refine hof3.mono ?_
  clear hof3 HOF
  rintro e W3 ⟨v3, rfl, hv3, hW3⟩
  rw [HE.out] at hv3
  obtain ⟨a3, c3, rfl, -, hx3⟩ := hv3.open_
  have HX3 := Hid.mk' hx3
  have H3 : Hid (Rows W3 (.slice a1 (ofDim all (i : Int)).length c1) (ofDim all (i : Int)) ∧ Rows W3 (.slice a2 (ofDim all (k : Int)).length c2) (ofDim all (k : Int)) ∧ Below w.heap.size w W3 ∧ Ints W3 (.slice af mf cf) f ∧ Ints W3 (.slice ag mg cg) g) := by
    have hb := H2.out.2.2.trans (hW3.mono H2.out.2.2.size)
    exact ⟨H2.out.1.below hW3, H2.out.2.1.below hW3, hb, HFG.out.1.below hb, HFG.out.2.below hb⟩
  obtain ⟨n, hn⟩ : ∃ n, (ofDim all ((i + k : Nat) : Int)).length = n := ⟨_, rfl⟩
  obtain ⟨Ni, hNi⟩ : ∃ N, (ofDim all (i : Int)).length = N := ⟨_, rfl⟩
  obtain ⟨Nk, hNk⟩ : ∃ N, (ofDim all (k : Int)).length = N := ⟨_, rfl⟩
  have HNN := Hid.mk' (And.intro hn (And.intro hNi hNk))
  have hn6 : n ≤ 60 := by have := HN60.out ((i + k : Nat) : Int); omega
  rw [hNi, hNk] at H3
  rw [hn, hNi, hNk]
  clear H2 hv3 hW3 hx3 hn hNi hNk
  go_wp2_with fail
  go_loopw [14, 15] (fun v p W => ∃ (x : Nat) (L : List Nat), x ≤ n ∧ p = .int .i64 (x : Int) ∧ Hid (L = (List.range x).filter (cupB all i k f g) ∧ W.ownsRow W3.heap.size 3 1 v L.length ((natsI L).map (Value.int .i64)) ∧ Below W3.heap.size W3 W)) (fun _ p _ => n - (intOf p).toNat)
  case atStart => exact ⟨0, [], by omega, rfl, rfl, World.ownsRow_nil _ _ _ _, Below.refl _ _⟩
  case round =>
    obtain ⟨x, L, hxn, rfl, HR⟩ := hrel
    obtain ⟨aL, cL, rfl⟩ := own_form HR.out.2.1
    have hLl : L.length ≤ 60 := by
      rw [HR.out.1]
      have := List.length_filter_le (cupB all i k f g) (List.range x)
      rw [List.length_range] at this; omega
    obtain ⟨M, hM⟩ : ∃ M, L.length = M := ⟨_, rfl⟩
    have HMM := Hid.mk' hM
    rw [hM] at hLl ⊢
    clear hM
    by_cases hlt : x < n
    · have hxl : x < (ofDim all ((i + k : Nat) : Int)).length := by rw [HNN.out.1]; exact hlt
      obtain ⟨b3, o3, rfl, -, hb3, hc3⟩ := HX3.out (by omega)
      obtain ⟨a4, c4, g4, i4⟩ := hc3 x hxl
      obtain ⟨z, hz⟩ : ∃ z, (ofDim all ((i + k : Nat) : Int))[x]?.getD [] = z := ⟨_, rfl⟩
      have hzf : faceD all (i + k) x = z := hz
      have hmem := faceD_mem hxl
      have hends := ends_in HG.out hxl
      rw [hzf] at hmem hends
      rw [hz] at g4 i4
      obtain ⟨b4, o4, rfl, hb4, hcap⟩ : ∃ b o, a4 = some ⟨b, o, none⟩ ∧ b < W3.heap.size ∧ z.length ≤ c4 := by
        obtain ⟨a', c', e', hq', hq⟩ := i4.open_
        cases e'
        obtain ⟨b, o, e1, -, e2, -⟩ := hq (by omega)
        exact ⟨b, o, e1, e2, hq'.1⟩
      rw [hmem.2] at g4 i4 hcap
      have g5 : wr.cell? ⟨b3, o3 + x, none⟩ = some (.slice (some ⟨b4, o4, none⟩) (i + k + 1) c4) := (HR.out.2.2.cell (p := ⟨b3, o3 + x, none⟩) hb3).trans g4
      have i5 : Ints wr (.slice (some ⟨b4, o4, none⟩) (i + k + 1) c4) z := i4.below HR.out.2.2
      have i6 : Ints wr (.slice (some ⟨b4, o4, none⟩) (i + 1) c4) (z.take (i + 1)) := IntsIn.upto i5 (by omega)
      have i7 : Ints wr (.slice (some ⟨b4, o4 + i, none⟩) (i + k + 1 - i) (c4 - i)) (z.drop i) := by
        have := IntsIn.behind_at i5 (k := i) (by omega)
        exact this
      have hid1 : z.take (i + 1) ∈ ofDim all (i : Int) := List.mem_filter.2 ⟨hends.1.1, by simp [hends.1.2]⟩
      have hid2 : z.drop i ∈ ofDim all (k : Int) := List.mem_filter.2 ⟨hends.2.1, by simp [hends.2.2]⟩
      have hio1 := index_at (.slice a1 Ni c1) (.slice (some ⟨b4, o4, none⟩) (i + 1) c4) (ofDim all (i : Int)) (z.take (i + 1)) wr (H3.out.1.below HR.out.2.2) i6 (by have := HN60.out (i : Int); omega) (fun y hy => by have := HXX.out y (mem_ofDim hy).1; omega) hid1
      have HIO2 : Hid (∀ q, Calls Tryz.prog 48 #[.slice a2 Nk c2, .slice (some ⟨b4, o4 + i, none⟩) (i + k + 1 - i) (c4 - i)] (wr.drewN q) fun e w' => e = .returned (.int .i64 (((ofDim all (k : Int)).idxOf (z.drop i) : Nat) : Int)) ∧ ∃ r, w' = (wr.drewN q).drewN r) := fun q => index_at (.slice a2 Nk c2) (.slice (some ⟨b4, o4 + i, none⟩) (i + k + 1 - i) (c4 - i)) (ofDim all (k : Int)) (z.drop i) (wr.drewN q) ((H3.out.2.1.below HR.out.2.2).below (drew_below _ _)) (i7.below (drew_below _ _)) (by have := HN60.out (k : Int); omega) (fun y hy => by have := HXX.out y (mem_ofDim hy).1; omega) hid2
      have e1 : (ofDim all (i : Int)).idxOf (z.take (i + 1)) = fstN all i k x := by
        unfold fstN idxF
        rw [hzf, hends.1.2, show (((i + 1 : Nat) : Int) - 1) = (i : Int) by omega]
      have e2 : (ofDim all (k : Int)).idxOf (z.drop i) = lstN all i k x := by
        unfold lstN idxF
        rw [hzf, hends.2.2, show (((k + 1 : Nat) : Int) - 1) = (k : Int) by omega]
      rw [e1] at hio1
      rw [e2] at HIO2
      have HCB : Hid (cupB all i k f g x = (f.contains (fstN all i k x : Int) && g.contains (lstN all i k x : Int))) := rfl
      obtain ⟨p1, hp1⟩ : ∃ p, fstN all i k x = p := ⟨_, rfl⟩
      obtain ⟨p2, hp2⟩ : ∃ p, lstN all i k x = p := ⟨_, rfl⟩
      rw [hp1] at hio1 HCB
      rw [hp2] at HIO2 HCB
      have HC1 : Hid (∀ q, Calls Tryz.prog 46 #[.slice af mf cf, .int .i64 (p1 : Int)] (wr.drewN q) fun e w' => e = .returned (.bool (f.contains (p1 : Int))) ∧ ∃ r, w' = (wr.drewN q).drewN r) := fun q => contains_ (.slice af mf cf) f (p1 : Int) (wr.drewN q) ((H3.out.2.2.2.1.below HR.out.2.2).below (drew_below _ _)) (by have := HL2.out.1; omega)
      have HC2 : Hid (∀ q, Calls Tryz.prog 46 #[.slice ag mg cg, .int .i64 (p2 : Int)] (wr.drewN q) fun e w' => e = .returned (.bool (g.contains (p2 : Int))) ∧ ∃ r, w' = (wr.drewN q).drewN r) := fun q => contains_ (.slice ag mg cg) g (p2 : Int) (wr.drewN q) ((H3.out.2.2.2.2.below HR.out.2.2).below (drew_below _ _)) (by have := HL2.out.2; omega)
      obtain ⟨t1, ht1⟩ : ∃ t, f.contains (p1 : Int) = t := ⟨_, rfl⟩
      obtain ⟨t2, ht2⟩ : ∃ t, g.contains (p2 : Int) = t := ⟨_, rfl⟩
      rw [ht1] at HC1 HCB
      rw [ht2] at HC2 HCB
      have eu1 : IntKind.i64.wrap ((i : Int) + 1) = ((i + 1 : Nat) : Int) := by rw [IntKind.wrap_i64]; omega
      have HF : Hid ((List.range (x + 1)).filter (cupB all i k f g) = if (t1 && t2) = true then L ++ [x] else L) := by
        show (List.range (x + 1)).filter (cupB all i k f g) = if (t1 && t2) = true then L ++ [x] else L
        rw [filter_next, ← HR.out.1, HCB.out]
      clear hz hzf hmem hends g4 i4 i5 i6 i7 hid1 hid2 e1 e2 hp1 hp2 ht1 ht2 hc3 hb3 hb4
      go_wp2_with fail
      refine hio1.mono ?_
      clear hio1
      rintro e V1 ⟨rfl, q1, rfl⟩
      have hio2 := HIO2.out q1
      have g6 : (wr.drewN q1).cell? ⟨b3, o3 + x, none⟩ = some (.slice (some ⟨b4, o4, none⟩) (i + k + 1) c4) := g5
      clear HIO2
      go_wp2_with fail
      refine hio2.mono ?_
      clear hio2
      rintro e V2 ⟨rfl, q2, rfl⟩
      rw [World.drewN_drewN]
      have hc1 := HC1.out (q1 + q2)
      clear HC1 g6
      go_wp2_with fail
      refine hc1.mono ?_
      clear hc1
      rintro e V3 ⟨rfl, q3, rfl⟩
      rw [World.drewN_drewN]
      have hc2 := HC2.out (q1 + q2 + q3)
      clear HC2
      go_wp2_with fail
      refine hc2.mono ?_
      clear hc2
      rintro e V4 ⟨rfl, q4, rfl⟩
      rw [World.drewN_drewN]
      have HB : Hid (Below W3.heap.size W3 (wr.drewN (q1 + q2 + q3 + q4)) ∧ (wr.drewN (q1 + q2 + q3 + q4)).ownsRow W3.heap.size 3 1 (.slice aL M cL) M ((natsI L).map (Value.int .i64))) := by
        refine ⟨HR.out.2.2.trans (drew_below _ _), ?_⟩
        have h1 := HR.out.2.1
        rw [HMM.out] at h1
        exact h1.kept (Below.grownBy (drew_below wr _)) (by cases (Value.slice aL M cL).ownBlock <;> simp)
      obtain ⟨V, hV⟩ : ∃ V, wr.drewN (q1 + q2 + q3 + q4) = V := ⟨_, rfl⟩
      rw [hV] at HB ⊢
      clear hV g5 HCB
      cases t1 with
      | false =>
        go_wp2_with fail
        go_roundw
        case rel => exact ⟨x + 1, L, by omega, by go_num, by rw [HF.out]; simp, by rw [HMM.out]; exact HB.out.2, HB.out.1⟩
        case measure => simp [intOf]; omega
      | true =>
        cases t2 with
        | false =>
          go_wp2_with fail
          go_roundw
          case rel => exact ⟨x + 1, L, by omega, by go_num, by rw [HF.out]; simp, by rw [HMM.out]; exact HB.out.2, HB.out.1⟩
          case measure => simp [intOf]; omega
        | true =>
          go_wp2_with (first
            | (at_builtin; refine wpList_append_slice rfl (.tmp 64) (.tmp 66) 39 rfl W3.heap.size 3 i0 (.int .i64 0) 8 Tryz.underlying39 hi hz0 hz1 hz2 rfl _ _ _ rfl (HB.out.2.alloc _) _ [.int .i64 (x : Int)] rfl (slice_one _ _ _) (by simp [Value.oneCell']) (by simp; omega) (by unfold maxLen; simp; omega) (by have := HB.out.1.size; simp; omega) ?_; intro v6 w6 hown6 hg6 hl6)
            | fail)
          have HE6 : Hid (w6.ownsRow W3.heap.size 3 1 v6 (L ++ [x]).length ((natsI (L ++ [x])).map (Value.int .i64)) ∧ Below W3.heap.size W3 w6) := by
            refine ⟨by rw [natsI_snoc, List.length_append, HMM.out]; exact hown6, ?_⟩
            exact (HB.out.1.alloc HB.out.1.size _).grown hg6 (by have := HB.out.1.size; simp; omega) (fun j hj => by have := (HB.out.2.lt j hj).1; omega)
          obtain ⟨a6, c6, rfl⟩ := own_form hown6
          clear hown6 hg6 hl6
          go_wp2_with fail
          go_roundw
          case rel => exact ⟨x + 1, L ++ [x], by omega, by go_num, by rw [HF.out]; simp, HE6.out.1, HE6.out.2⟩
          case measure => simp [intOf]; omega
    · have hkm : x = n := by omega
      subst hkm
      go_wp2_with fail
      go_ret
      refine ⟨_, rfl, ?_, H3.out.2.2.1.trans (HR.out.2.2.mono H3.out.2.2.1.size)⟩
      have hs := slice_of_owns (S := fun b => w.heap.size ≤ b) HR.out.2.1 (fun b hb _ => by have := H3.out.2.2.1.size; omega)
      have e : cupL all i k f g = L := by rw [HR.out.1]; unfold cupL; rw [HNN.out.1]
      rw [HMM.out] at hs
      unfold IntsIn
      rw [e]
      exact hs

end Go.Proofs.YtldknhganoiajaaGreatDoor

namespace Go.Proofs.YtldknhganoiajaaGreatDoor
open Go.RowKit Go.Sort

theorem top_take {all : List (List Int)} {k : Nat} (hk : k < all.length) : topN (all.take (k + 1)) = max (topN (all.take k)) (all[k]?.getD []).length := by
  rw [List.take_add_one, List.getElem?_eq_getElem hk, Option.getD_some]
  exact topN_snoc _ _
set_option maxRecDepth 100000 in
theorem top_of (va : Value) (all : List (List Int)) (w : World) (ha : Rows w va all) (hl : all.length ≤ 1000) (hx : ∀ x ∈ all, x.length ≤ 1000) :
    Calls Tryz.prog 23 #[va] w fun e w' => e = .returned (.int .i64 ((topN all : Int) - 1)) ∧ w' = w := by
  obtain ⟨a, ca, rfl, -, hc⟩ := ha.open_
  have HX : Hid (∀ x ∈ all, x.length ≤ 1000) := hx
  have HT : Hid (∀ k, topN (all.take k) ≤ 1000) := fun k => topN_upto (fun x h => hx x (List.mem_of_mem_take h))
  clear hx ha
  go_enter Tryz.func23, Tryz.ntmps23
  go_wp2
  go_loopw [3, 4] (fun v p wr => ∃ k t : Nat, k ≤ all.length ∧ p = .int .i64 k ∧ v = .int .i64 ((t : Int) - 1) ∧ t = topN (all.take k) ∧ wr = w)
    (fun _ p _ => all.length - (intOf p).toNat)
  case atStart => exact ⟨0, 0, by omega, rfl, rfl, rfl, rfl⟩
  case round =>
    obtain ⟨k, t, hk, rfl, rfl, ht, rfl⟩ := hrel
    have ht1 : t ≤ 1000 := by rw [ht]; exact HT.out k
    have HTK : Hid (t = topN (all.take k)) := ht
    clear ht
    by_cases hlt : k < all.length
    · obtain ⟨b, o, rfl, -, hb, c⟩ := hc (by omega)
      obtain ⟨a1, p1, g1, i1⟩ := c k hlt
      have hlen : (all[k]?.getD []).length ≤ 1000 := HX.out _ (by rw [List.getElem?_eq_getElem hlt]; simp)
      obtain ⟨x, hxe⟩ : ∃ x, all[k]?.getD [] = x := ⟨_, rfl⟩
      rw [hxe] at g1 i1 hlen
      have HS : Hid (topN (all.take (k + 1)) = max t x.length) := by
        show topN (all.take (k + 1)) = max t x.length
        rw [top_take hlt, hxe, HTK.out]
      clear hxe i1 hc c
      by_cases hd : t < x.length
      · have hdb : decide ((t : Int) - 1 < (x.length : Int) - 1) = true := decide_eq_true (by omega)
        go_wp2
        go_roundw
        case rel => exact ⟨k + 1, x.length, by omega, by go_num, rfl, by rw [HS.out]; omega, (by first | trivial | rfl)⟩
        case measure => simp [intOf]; omega
      · have hdb : decide ((t : Int) - 1 < (x.length : Int) - 1) = false := decide_eq_false (by omega)
        go_wp2
        go_roundw
        case rel => exact ⟨k + 1, t, by omega, by go_num, rfl, by rw [HS.out]; omega, (by first | trivial | rfl)⟩
        case measure => simp [intOf]; omega
    · obtain rfl : k = all.length := by omega
      clear hc
      go_wp2
      go_ret
      have e := HTK.out
      rw [List.take_length] at e
      exact ⟨by rw [← e]; rfl, rfl⟩

end Go.Proofs.YtldknhganoiajaaGreatDoor

namespace Go.Proofs.YtldknhganoiajaaGreatDoor
open Go.RowKit Go.Sort

theorem withS_rows (S : List Nat) (x : Nat) : (withS S x).length = S.length + nw (restS S x) := by
  unfold withS nw
  split <;> simp
theorem foldS_rows : ∀ (l S : List Nat), (l.foldl withS S).length = S.length + cntS S l
  | [], S => by simp [cntS]
  | x :: l, S => by
    rw [List.foldl_cons, foldS_rows l (withS S x), withS_rows]
    simp only [cntS]
    omega
theorem rankB_le (B : Tb) : rankB B ≤ 64 := by
  unfold rankB
  have := List.length_filter_le (fun k => (B k).isSome) (List.range 64)
  rwa [List.length_range] at this
theorem allS_rows {rs l : List Nat} (hr : ∀ r ∈ rs, r < 2 ^ 64) (hl : ∀ r ∈ l, r < 2 ^ 64) : (l.foldl withS (allS rs)).length ≤ 64 := by
  have h1 := foldS_rows l (allS rs)
  have h2 := foldS_rows rs []
  have h3 := Alike.cnt (alike_fed hr) hl
  have h4 := Alike.cnt (B := emptyB) (S := []) (l := rs) ⟨emptyB_ok, spOk_nil, fun z => by rw [lst_empty]⟩ hr
  have h5 := cntB_rank l (fedB rs) (fedB_ok hr) hl
  have h6 := cntB_rank rs emptyB emptyB_ok hr
  have h7 := rankB_le (l.foldl putB (fedB rs))
  have h8 : rs.foldl putB emptyB = fedB rs := rfl
  have h9 : rs.foldl withS [] = allS rs := rfl
  rw [rankB_empty, h8] at h6
  rw [h9] at h2
  simp at h2
  omega
theorem nw_le (x : Nat) : nw x ≤ 1 := by unfold nw; split <;> omega
theorem cntS_le : ∀ (l S : List Nat), cntS S l ≤ l.length
  | [], _ => Nat.le_refl _
  | x :: l, S => by
    simp only [cntS, List.length_cons]
    have := cntS_le l (withS S x)
    have := nw_le (restS S x)
    omega
/-- Both count the same. -/
theorem ring_both {l all : List (List Int)} (hg : Good l all) (h60 : all.length ≤ 60) (i k : Nat) : cntS (allS (rowsD all (i + k))) (prodL all i k (clsR all i) (clsR all k)) = ringN all i k := by
  have h6 := cnt60 h60 (i + k)
  have hr := rowsD_lt all (i + k) (show nD all (i + k) ≤ 64 by omega)
  have hA := clsR_is hg h60 i
  have hB := clsR_is hg h60 k
  rw [← Alike.cnt (alike_fed hr) (fun x hx => lt64 (prodL_is hg h60 hA.is hB.is x hx).1 (by omega))]
  exact ring_same hg h60 hA (clsP_is hg h60 i) hB (clsP_is hg h60 k)
theorem clsR_len {l all : List (List Int)} (hg : Good l all) (h60 : all.length ≤ 60) (d : Nat) : (clsR all d).length ≤ 60 := by
  have h1 := cocR_len hg h60 d
  have : ∀ (L S : List Nat), (selS S L).length ≤ L.length := fun L => by
    induction L with
    | nil => intro S; exact Nat.le_refl _
    | cons x L ih =>
      intro S
      simp only [selS, List.length_cons]
      have := ih (withS S x)
      cases restS S x == 0
      · rw [cond_false, List.length_cons]; omega
      · rw [cond_true]; omega
  have h2 := this (cocR all d) (allS (rowsD all d))
  unfold clsR
  omega

end Go.Proofs.YtldknhganoiajaaGreatDoor
