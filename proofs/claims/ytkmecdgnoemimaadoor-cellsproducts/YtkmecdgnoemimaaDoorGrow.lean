/- What the reference's grow answers: all sets that are grown from one on, but no more than 601 in all. -/
import Derived.Test.YtkmecdgnoemimaaDoorGrowBase
namespace Go.Proofs.YtkmecdgnoemimaaDoor
open Go.RowKit Go.Shelf Go.Sort Go.Maps Go.Deep

theorem ints_at_one {W : World} {b o c : Nat} {v : Int} (h : W.cell? ⟨b, o, none⟩ = some (.int .i64 v)) (hc : 1 ≤ c) : Ints W (.slice (some ⟨b, o, none⟩) 1 c) [v] :=
  ⟨some ⟨b, o, none⟩, c, rfl, ⟨hc, fun h => by cases h⟩, fun _ => ⟨b, o, rfl, trivial, fun k u hu => by
    cases k with
    | zero => simp at hu; rw [Nat.add_zero, h, hu]
    | succ k => simp at hu⟩⟩
theorem drewN_below (W : World) (q : Nat) : Below W.heap.size W (W.drewN q) := ⟨rfl, rfl, rfl, Nat.le_refl _, fun _ _ => rfl⟩
/-- What is handed to grow. -/
structure GrowIn (P n : Nat) (V Wv : List Int) (vo : Value) (W : World) (vs vf vg : Value) (set f g : List Int) (x y : Nat) (outs : List (List Int)) : Prop where
  sets : SetIn P vo W vs set
  fs : SetIn P vo W vf f
  gs : SetIn P vo W vg g
  frise : Rising f
  grise : Rising g
  slen : set.length + n ≤ 400
  flen : f.length + n ≤ 400
  glen : g.length + n ≤ 400
  xl : x ≤ V.length
  yl : y ≤ Wv.length
  fuel : (V.length - x) + (Wv.length - y) + (if set = [] then 1 else 0) < n
  outl : outs.length ≤ 601

theorem growC_no {p q : List (List Int)} {V W : List Int} {n : Nat} {set : List Int} {x y : Nat} {f g : List Int} {c : Nat × Nat} (hsk : ¬ (set ≠ [] ∧ c = (x, y))) (h : ¬ (insR (vAt V c.1) f ∈ p ∧ insR (vAt W c.2) g ∈ q)) : growC p q V W n set x y f g c = [] := by
  unfold growC; rw [if_neg hsk, if_neg h]
theorem growC_yes {p q : List (List Int)} {V W : List Int} {n : Nat} {set : List Int} {x y : Nat} {f g : List Int} {c : Nat × Nat} (hsk : ¬ (set ≠ [] ∧ c = (x, y))) (h : insR (vAt V c.1) f ∈ p ∧ insR (vAt W c.2) g ∈ q) :
    growC p q V W n set x y f g c = growL p q V W n (set ++ [code W.length c]) c.1 c.2 (insR (vAt V c.1) f) (insR (vAt W c.2) g) := by
  unfold growC; rw [if_neg hsk, if_pos h]
theorem growC_skip {p q : List (List Int)} {V W : List Int} {n : Nat} {set : List Int} {x y : Nat} {f g : List Int} {c : Nat × Nat} (hsk : set ≠ [] ∧ c = (x, y)) : growC p q V W n set x y f g c = [] := by
  unfold growC; rw [if_pos hsk]
theorem GrowIn.next {P n : Nat} {V Wv : List Int} {vk : Value} {W : World} {vs vf vg : Value} {set f g o5 o6 : List Int} {x y i k : Nat} {outs : List (List Int)} {c v u : Int} (hs : SetIn P vk W vs (set ++ [c])) (h5 : SetIn P vk W vf o5) (h6 : SetIn P vk W vg o6) (hO5 : o5 = insR v f) (hO6 : o6 = insR u g)
    (hnum : (Rising f ∧ Rising g) ∧ (set.length + (n + 1) ≤ 400 ∧ f.length + (n + 1) ≤ 400 ∧ g.length + (n + 1) ≤ 400) ∧ (V.length - x) + (Wv.length - y) + (if set = [] then 1 else 0) < n + 1)
    (hx : x ≤ i) (hi : i < V.length) (hy : y ≤ k) (hk : k < Wv.length) (hsk : ¬ (set ≠ [] ∧ (i, k) = (x, y))) : GrowIn P n V Wv vk W vs vf vg (set ++ [c]) o5 o6 i k (outs.take 601) := by
  obtain ⟨⟨h1, h2⟩, ⟨h3, h4, h7⟩, h8⟩ := hnum
  have l5 := insR_len v f
  have l6 := insR_len u g
  refine ⟨hs, h5, h6, by rw [hO5]; exact insR_rising h1, by rw [hO6]; exact insR_rising h2, by simp; omega, by rw [hO5]; omega, by rw [hO6]; omega, Nat.le_of_lt hi, Nat.le_of_lt hk, ?_, List.length_take_le _ _⟩
  rw [if_neg (by simp)]
  by_cases he : set = []
  · rw [if_pos he] at h8; omega
  · rw [if_neg he] at h8
    have : ¬ (i = x ∧ k = y) := fun e => hsk ⟨he, by rw [e.1, e.2]⟩
    omega
theorem grow_next {β : Type} {L M N : List β} (h : N = L ++ M) : (L.take 601 ++ M).take 601 = N.take 601 := by rw [h, take_again]
theorem set_made {P : Nat} {w0 : World} {va vb vv vw : Value} {W2 w8 w10 : World} {vo1 vk v10 : Value} {L : List (List Int)} {n : Nat} {cs : List Value} {s : List Int} (hT : GrowTo P w0 va vb vv vw W2 vo1 w8 vk L) (hown : w10.ownsRow w8.heap.size 3 1 v10 n cs) (hc : cs = s.map (Value.int .i64)) : SetIn P vk w10 v10 s := by
  subst hc
  exact slice_of_owns hown (fun b hb _ => ⟨by have := hT.st.lt; omega, fun e => by have h1 := (hT.st.own.block e.symm).2; omega⟩)

theorem first_call {P : Nat} {w0 : World} {va vb vv vw : Value} {W2 wk : World} {vo1 vk vf : Value} {L : List (List Int)} {f : List Int} (hT : GrowTo P w0 va vb vv vw W2 vo1 wk vk L) (hP : w0.heap.size = P) (hf : SetIn P vo1 W2 vf f) (hr : Rising f) (hfl : f.length ≤ 400) {b o c : Nat} {v : Int}
    (hc : w0.cell? ⟨b, o, none⟩ = some (.int .i64 v)) (hb : b < w0.heap.size) (h1 : 1 ≤ c) :
    Calls Tryd.prog 21 #[vf, .slice (some ⟨b, o, none⟩) 1 c] wk fun e w' => ∃ a5 c5 o5, e = .returned (.slice a5 (List.length o5) c5) ∧ o5 = insR v f ∧ SetIn P vk w' (.slice a5 o5.length c5) o5 ∧ Below wk.heap.size wk w' := by
  refine (together_in vf (.slice (some ⟨b, o, none⟩) 1 c) f [v] wk (hf.rest hT.rest hT.next).ints (ints_at_one ((hT.st.under.cell (p := ⟨b, o, none⟩) (by rw [← hP]; exact hb)).trans hc) h1) hfl (by simp)).mono ?_
  rintro e w' ⟨v5, o5, rfl, ho, hr5, hm5, hB⟩
  have h5 : o5 = insR v f := rising_told hr5 (insR_rising hr) (fun z => by rw [hm5, insR_mem]; simp)
  obtain ⟨a5, c5, rfl, -, -⟩ := ho.open_
  refine ⟨a5, c5, o5, rfl, h5, SliceIn.mono ho (fun b _ hge => ⟨?_, fun e => ?_⟩), hB⟩
  · have := hT.st.lt
    have h2 : wk.heap.size ≤ b := hge
    omega
  · have h1 := (hT.st.own.block e.symm).2
    have h2 : wk.heap.size ≤ b := hge
    omega
theorem index_call {P : Nat} {w0 : World} {va vb vv vw : Value} {W2 wk : World} {vo1 vk vf : Value} {L : List (List Int)} {f : List Int} (hT : GrowTo P w0 va vb vv vw W2 vo1 wk vk L) (hP : w0.heap.size = P) {vp : Value} {p : List (List Int)} (ha : Rows w0 vp p) (hp : p.length ≤ 600) (hps : ∀ x ∈ p, x.length ≤ 1000000) (hf : SetIn P vk wk vf f) :
    Calls Tryd.prog 57 #[vp, vf] wk fun e w' => ∃ r : Int, e = .returned (.int .i64 r) ∧ ((f ∈ p ∧ 0 ≤ r) ∨ (f ∉ p ∧ r < 0)) ∧ Below wk.heap.size wk w' := by
  refine (index_of vp vf p f wk (ha.below (by have := hT.st.under; rw [← hP] at this; exact this)) hf.ints (by omega) hps).mono ?_
  rintro e w' ⟨r, rfl, h1, h2, q, rfl⟩
  refine ⟨r, rfl, ?_, drewN_below wk q⟩
  by_cases h : f ∈ p
  · exact .inl ⟨h, h1.2 h⟩
  · exact .inr ⟨h, by have : ¬ 0 ≤ r := fun h' => h (h1.1 h'); omega⟩

set_option maxRecDepth 100000 in
set_option maxHeartbeats 40000000 in
theorem grow_ (P : Nat) (w0 : World) (hP : w0.heap.size = P) (p q : List (List Int)) (V Wv : List Int) (va vb vv vw : Value) (hp : p.length ≤ 600) (hq : q.length ≤ 600) (hps : ∀ x ∈ p, x.length ≤ 1000000) (hqs : ∀ x ∈ q, x.length ≤ 1000000) (hV : V.length ≤ 100) (hW : Wv.length ≤ 100)
    (ha : Rows w0 va p) (hb : Rows w0 vb q) (hv : Ints w0 vv V) (hw : Ints w0 vw Wv) : ∀ (n : Nat) (vs vf vg vo : Value) (set f g : List Int) (x y : Nat) (outs : List (List Int)) (W : World),
    GrowS P w0 va vb vv vw W vo outs → GrowIn P n V Wv vo W vs vf vg set f g x y outs →
    Calls Tryd.prog 33 #[.pointer (some ⟨P, 0, none⟩), vs, .int .i64 x, .int .i64 y, vf, vg] W fun e W' =>
      ∃ vo', e = .returned (.tuple #[]) ∧ GrowTo P w0 va vb vv vw W vo W' vo' ((outs ++ growL p q V Wv n set x y f g).take 601) := by
  obtain ⟨i0, hi, hz0, hz1, hz2⟩ := info_parts Tryd.info37
  obtain ⟨j0, hj0, hy0, hy1, hy2⟩ := info_parts Tryd.info3
  obtain ⟨av, cv, hvv, hVc, hcv⟩ := hv.open_
  obtain ⟨aw, cw, hww, hWc, hcw⟩ := hw.open_
  obtain ⟨aa, ca, haa, -, -⟩ := ha.open_
  obtain ⟨ab, cb, hbb, -, -⟩ := hb.open_
  have HCV : Hid (vv = .slice av V.length cv ∧ (0 < V.length → ∃ b off, av = some ⟨b, off, none⟩ ∧ True ∧ b < w0.heap.size ∧ ∀ k, k < V.length → w0.cell? ⟨b, off + k, none⟩ = some (.int .i64 (V[k]?.getD 0)))) := ⟨hvv, hcv⟩
  have HCW : Hid (vw = .slice aw Wv.length cw ∧ (0 < Wv.length → ∃ b off, aw = some ⟨b, off, none⟩ ∧ True ∧ b < w0.heap.size ∧ ∀ k, k < Wv.length → w0.cell? ⟨b, off + k, none⟩ = some (.int .i64 (Wv[k]?.getD 0)))) := ⟨hww, hcw⟩
  have HAB : Hid (va = .slice aa p.length ca ∧ vb = .slice ab q.length cb) := ⟨haa, hbb⟩
  have HPP : Hid (w0.heap.size = P) := hP
  have hVc := hVc.1
  have hWc := hWc.1
  clear hcv hcw hvv hww haa hbb hP
  intro n
  induction n with
  | zero =>
    intro vs vf vg vo set f g x y outs W _ hI
    have := hI.fuel
    omega
  | succ n ih =>
    intro vs vf vg vo set f g x y outs W hS hI
    have HIH : Hid (∀ (vs vf vg vo : Value) (set f g : List Int) (x y : Nat) (outs : List (List Int)) (W : World),
      GrowS P w0 va vb vv vw W vo outs → GrowIn P n V Wv vo W vs vf vg set f g x y outs →
      Calls Tryd.prog 33 #[.pointer (some ⟨P, 0, none⟩), vs, .int .i64 x, .int .i64 y, vf, vg] W fun e W' =>
        ∃ vo', e = .returned (.tuple #[]) ∧ GrowTo P w0 va vb vv vw W vo W' vo' ((outs ++ growL p q V Wv n set x y f g).take 601)) := ih
    have HI : Hid (GrowIn P (n + 1) V Wv vo W vs vf vg set f g x y outs) := hI
    have HS : Hid (GrowS P w0 va vb vv vw W vo outs) := hS
    have HR : Hid (Rows w0 va p ∧ Rows w0 vb q) := ⟨ha, hb⟩
    have HPQ : Hid ((∀ x ∈ p, x.length ≤ 1000000) ∧ ∀ x ∈ q, x.length ≤ 1000000) := ⟨hps, hqs⟩
    obtain ⟨sa, cs, rfl, -, -⟩ := IntsIn.open_ hI.sets
    obtain ⟨fa, fc, rfl, -, -⟩ := IntsIn.open_ hI.fs
    obtain ⟨ga, gc, rfl, -, -⟩ := IntsIn.open_ hI.gs
    have k4 := hS.c4
    have k5 := hS.c5
    obtain ⟨ao, co, rfl, -, -⟩ := hS.own.rows.open_
    have hol := hI.outl
    clear ih hS hI ha hb hv hw hps hqs
    go_enter Tryd.func33, Tryd.ntmps33
    go_wp2_with fail
    by_cases h601 : 600 < outs.length
    · have hfull : (outs ++ growL p q V Wv (n + 1) set x y f g).take 601 = outs := by
        rw [List.take_append_of_le_length (by omega), List.take_of_length_le (by omega)]
      have HF : Hid (GrowTo P w0 va vb vv vw W (.slice ao outs.length co) W.drew (.slice ao outs.length co) ((outs ++ growL p q V Wv (n + 1) set x y f g).take 601)) := by
        show GrowTo _ _ _ _ _ _ _ _ _ _ _
        rw [hfull]
        exact HS.out.refl.below ⟨rfl, rfl, rfl, Nat.le_refl _, fun _ _ => rfl⟩
      clear hfull
      go_region
      all_goals go_wp2
      all_goals refine bodyPost_ret (v := .tuple #[]) ?_ rfl ?_
      all_goals first
        | exact ⟨_, rfl, HF.out⟩
        | simp [results, Tryd.f33, go_sem]
    · have hBd : Below W.heap.size W W.drew := ⟨rfl, rfl, rfl, Nat.le_refl _, fun _ _ => rfl⟩
      have HT1 : Hid (GrowTo P w0 va vb vv vw W (.slice ao outs.length co) W.drew (.slice ao outs.length co) outs) := HS.out.refl.below hBd
      have HST : Hid (SetIn P (.slice ao outs.length co) W.drew (.slice sa set.length cs) set ∧ SetIn P (.slice ao outs.length co) W.drew (.slice fa f.length fc) f ∧ SetIn P (.slice ao outs.length co) W.drew (.slice ga g.length gc) g) := ⟨HI.out.sets.below hBd, HI.out.fs.below hBd, HI.out.gs.below hBd⟩
      have HNUM : Hid ((Rising f ∧ Rising g) ∧ (set.length + (n + 1) ≤ 400 ∧ f.length + (n + 1) ≤ 400 ∧ g.length + (n + 1) ≤ 400) ∧ (V.length - x) + (Wv.length - y) + (if set = [] then 1 else 0) < n + 1) := ⟨⟨HI.out.frise, HI.out.grise⟩, ⟨HI.out.slen, HI.out.flen, HI.out.glen⟩, HI.out.fuel⟩
      have hxl := HI.out.xl
      have hyl := HI.out.yl
      have HGL : Hid (growL p q V Wv (n + 1) set x y f g = (if set = [] then [] else [set]) ++ (List.range' x (V.length - x)).flatMap (growRow p q V Wv n set x y f g)) := growL_rows p q V Wv n set x y f g
      go_region
      clear hBd k4 k5 HI HS
      obtain ⟨W1, hW1⟩ : ∃ W1, W.drew = W1 := ⟨_, rfl⟩
      rw [hW1] at HT1 HST ⊢
      clear hW1
      by_cases hs : set = []
      · have hs0 : set.length = 0 := by rw [hs]; rfl
        obtain ⟨W2, hW2⟩ : ∃ W2, W1 = W2 := ⟨_, rfl⟩
        subst hW2
        obtain ⟨vo1, hvo1⟩ : ∃ v, Value.slice ao outs.length co = v := ⟨_, rfl⟩
        obtain ⟨outs1, houts⟩ : ∃ o, outs = o := ⟨_, rfl⟩
        have HST2 : Hid (SetIn P vo1 W1 (.slice sa set.length cs) set ∧ SetIn P vo1 W1 (.slice fa f.length fc) f ∧ SetIn P vo1 W1 (.slice ga g.length gc) g) := by rw [← hvo1]; exact HST.out
        have HT : Hid (GrowTo P w0 va vb vv vw W (.slice ao outs.length co) W1 vo1 outs1) := by rw [← hvo1, ← houts]; exact HT1.out
        have HGE : Hid ((outs ++ growL p q V Wv (n + 1) set x y f g).take 601 = (outs1 ++ (List.range' x (V.length - x)).flatMap (growRow p q V Wv n set x y f g)).take 601) := by
          show _ = _
          rw [HGL.out, if_pos hs, List.nil_append, houts]
        have HOL : Hid (outs1.length ≤ 601) := by rw [← houts]; exact hol
        have HSE : Hid (set = []) := hs
        obtain ⟨W2, hW2⟩ : ∃ W2, W1 = W2 := ⟨_, rfl⟩
        rw [hW2] at HST2 HT ⊢
        rw [hs0]
        clear hvo1 houts HT1 HST HGL hs hW2 hol
        go_wp2
        go_loopw [12] (fun u wr => ∃ (i : Nat) (vk : Value), (x ≤ i ∧ i ≤ V.length) ∧ u = .int .i64 i ∧ GrowTo P w0 va vb vv vw W2 vo1 wr vk ((outs1 ++ (List.range' x (i - x)).flatMap (growRow p q V Wv n set x y f g)).take 601))
          (fun u _ => V.length - (intOf u).toNat)
        case atStart => exact ⟨x, vo1, ⟨Nat.le_refl _, hxl⟩, rfl, by simp only [Nat.sub_self, List.range'_zero, List.flatMap_nil, List.append_nil]; rw [List.take_of_length_le HOL.out]; exact HT.out.st.refl⟩
        case round =>
          obtain ⟨i, vk, ⟨hxi, hiV⟩, rfl, hGi⟩ := hrel
          obtain ⟨wi, hwi⟩ : ∃ wi : World, wi = wr := ⟨_, rfl⟩
          subst hwi
          have HGI : Hid (GrowTo P w0 va vb vv vw W2 vo1 wi vk ((outs1 ++ (List.range' x (i - x)).flatMap (growRow p q V Wv n set x y f g)).take 601)) := hGi
          have k2 := hGi.st.c2
          rw [HCV.out.1] at k2
          clear hGi
          by_cases hlt : i < V.length
          · obtain ⟨acc, hacc⟩ : ∃ acc, outs1 ++ (List.range' x (i - x)).flatMap (growRow p q V Wv n set x y f g) = acc := ⟨_, rfl⟩
            have HACC : Hid (outs1 ++ (List.range' x (i + 1 - x)).flatMap (growRow p q V Wv n set x y f g) = acc ++ growRow p q V Wv n set x y f g i) := by
              show _ = _
              rw [show i + 1 - x = (i - x) + 1 by omega, flat_snoc, ← List.append_assoc, hacc, show x + (i - x) = i by omega]
            rw [hacc] at HGI
            clear hacc
            go_wp2
            go_loopw [13] (fun u wr => ∃ (k : Nat) (vk : Value), (y ≤ k ∧ k ≤ Wv.length) ∧ u = .int .i64 k ∧ GrowTo P w0 va vb vv vw W2 vo1 wr vk ((acc ++ (List.range' y (k - y)).flatMap (fun k => growC p q V Wv n set x y f g (i, k))).take 601))
              (fun u _ => Wv.length - (intOf u).toNat)
            case atStart => exact ⟨y, vk, ⟨Nat.le_refl _, hyl⟩, rfl, by simp only [Nat.sub_self, List.range'_zero, List.flatMap_nil, List.append_nil]; exact HGI.out⟩
            case round =>
              obtain ⟨k, vk, ⟨hyk, hkW⟩, rfl, hGk⟩ := hrel
              obtain ⟨wk, hwk⟩ : ∃ wk : World, wk = wr := ⟨_, rfl⟩
              subst hwk
              have HGK : Hid (GrowTo P w0 va vb vv vw W2 vo1 wk vk ((acc ++ (List.range' y (k - y)).flatMap (fun k => growC p q V Wv n set x y f g (i, k))).take 601)) := hGk
              have k3 := hGk.st.c3
              rw [HCW.out.1] at k3
              have k2 := hGk.st.c2
              rw [HCV.out.1] at k2
              clear hGk HGI
              by_cases hlk : k < Wv.length
              · have HNEXT : Hid (acc ++ (List.range' y (k + 1 - y)).flatMap (fun k => growC p q V Wv n set x y f g (i, k)) = (acc ++ (List.range' y (k - y)).flatMap (fun k => growC p q V Wv n set x y f g (i, k))) ++ growC p q V Wv n set x y f g (i, k)) := by
                  show _ = _
                  rw [show k + 1 - y = (k - y) + 1 by omega, flat_snoc, ← List.append_assoc, show y + (k - y) = k by omega]
                have hsk : ¬ (set ≠ [] ∧ (i, k) = (x, y)) := fun e => e.1 HSE.out
                obtain ⟨bv, ov, hav, -, hbv, hcv⟩ := HCV.out.2 (by omega)
                obtain ⟨bw, ow, haw, -, hbw, hcw⟩ := HCW.out.2 (by omega)
                have HAV : Hid (av = some ⟨bv, ov, none⟩) := hav
                have HAW : Hid (aw = some ⟨bw, ow, none⟩) := haw
                clear hav haw
                rw [HAV.out] at k2
                rw [HAW.out] at k3
                have hto := first_call HGK.out HPP.out HST2.out.2.1 HNUM.out.1.1 (by have := HNUM.out.2.1.2.1; omega) (hcv i hlt) hbv (show 1 ≤ cv - i by omega)
                go_wp2_with fail
                refine hto.mono ?_
                clear hto
                rintro e w5 ⟨a5, c5, o5, rfl, hO5, hI5, hB5⟩
                have HO5 : Hid (o5 = insR (vAt V i) f) := hO5
                have HG5 : Hid (GrowTo P w0 va vb vv vw W2 vo1 w5 vk ((acc ++ (List.range' y (k - y)).flatMap (fun k => growC p q V Wv n set x y f g (i, k))).take 601)) := HGK.out.below hB5
                have HI5 : Hid (SetIn P vk w5 (.slice a5 o5.length c5) o5) := hI5
                have k35 := HG5.out.st.c3
                rw [HCW.out.1, HAW.out] at k35
                have htg := first_call HG5.out HPP.out HST2.out.2.2 HNUM.out.1.2 (by have := HNUM.out.2.1.2.2; omega) (hcw k hlk) hbw (show 1 ≤ cw - k by omega)
                clear hO5 hI5 hB5 k3 k2 HGK
                go_wp2_with fail
                refine htg.mono ?_
                clear htg
                rintro e w6 ⟨a6, c6, o6, rfl, hO6, hI6, hB6⟩
                have HO6 : Hid (o6 = insR (vAt Wv k) g) := hO6
                have HG6 : Hid (GrowTo P w0 va vb vv vw W2 vo1 w6 vk ((acc ++ (List.range' y (k - y)).flatMap (fun k => growC p q V Wv n set x y f g (i, k))).take 601)) := HG5.out.below hB6
                have HI6 : Hid (SetIn P vk w6 (.slice a6 o6.length c6) o6) := hI6
                have HI56 : Hid (SetIn P vk w6 (.slice a5 o5.length c5) o5) := HI5.out.below hB6
                have HSK : Hid (¬ (set ≠ [] ∧ (i, k) = (x, y))) := hsk
                have k06 := HG6.out.st.c0
                rw [HAB.out.1] at k06
                have hi1 := index_call HG6.out HPP.out HR.out.1 hp HPQ.out.1 HI56.out
                rw [HAB.out.1] at hi1
                clear hO6 hI6 hB6 k35 HG5 HI5 hsk
                go_wp2_with fail
                refine hi1.mono ?_
                clear hi1
                rintro e w7 ⟨r1, rfl, hr1, hB7⟩
                have HG7 : Hid (GrowTo P w0 va vb vv vw W2 vo1 w7 vk ((acc ++ (List.range' y (k - y)).flatMap (fun k => growC p q V Wv n set x y f g (i, k))).take 601)) := HG6.out.below hB7
                have HI7 : Hid (SetIn P vk w7 (.slice a5 o5.length c5) o5 ∧ SetIn P vk w7 (.slice a6 o6.length c6) o6) := ⟨HI56.out.below hB7, HI6.out.below hB7⟩
                clear hB7 HG6 HI6 HI56 k06
                rcases hr1 with ⟨hin1, hr1⟩ | ⟨hin1, hr1⟩
                · have HIN1 : Hid (o5 ∈ p) := hin1
                  have k17 := HG7.out.st.c1
                  rw [HAB.out.2] at k17
                  have hi2 := index_call HG7.out HPP.out HR.out.2 hq HPQ.out.2 HI7.out.2
                  rw [HAB.out.2] at hi2
                  clear hin1
                  go_wp2_with fail
                  refine hi2.mono ?_
                  clear hi2
                  rintro e w8 ⟨r2, rfl, hr2, hB8⟩
                  have HG8 : Hid (GrowTo P w0 va vb vv vw W2 vo1 w8 vk ((acc ++ (List.range' y (k - y)).flatMap (fun k => growC p q V Wv n set x y f g (i, k))).take 601)) := HG7.out.below hB8
                  have HI8 : Hid (SetIn P vk w8 (.slice a5 o5.length c5) o5 ∧ SetIn P vk w8 (.slice a6 o6.length c6) o6) := ⟨HI7.out.1.below hB8, HI7.out.2.below hB8⟩
                  clear hB8 HG7 HI7 k17
                  rcases hr2 with ⟨hin2, hr2⟩ | ⟨hin2, hr2⟩
                  · have HIN2 : Hid (o6 ∈ q) := hin2
                    have hset := (HST2.out.1.rest HG8.out.rest HG8.out.next).ints
                    have hsl : set.length ≤ 400 := by have := HNUM.out.2.1.1; omega
                    rw [hs0] at hset
                    have HS8 : Hid (Below P w0 w8) := HG8.out.st.under
                    clear hin2
                    have k38 := HG8.out.st.c3
                    rw [HCW.out.1, HAW.out] at k38
                    have hlt8 := HG8.out.st.lt
                    have hmm : i * Wv.length ≤ 10000 := Nat.mul_le_mul (show i ≤ 100 by omega) hW
                    have hmi : ((i : Int) * (Wv.length : Int)) = ((i * Wv.length : Nat) : Int) := (Int.natCast_mul i Wv.length).symm
                    obtain ⟨M, hM⟩ : ∃ M, i * Wv.length = M := ⟨_, rfl⟩
                    rw [hM] at hmm hmi
                    have HCO : Hid (code Wv.length (i, k) = (M : Int) + (k : Int)) := by
                      show code _ _ = _
                      unfold code
                      rw [← hM, Int.natCast_add]
                    clear hM
                    go_wp2_with (first
                      | (at_builtin; refine wpList_append_slice rfl (.tmp 109) (.tmp 110) 37 rfl w8.heap.size 3 j0 (.int .i64 0) 8 Tryd.underlying37 hj0 hy0 hy1 hy2 rfl _ _ _ rfl (World.ownsRow_nil _ _ _ _) _ (set.map (Value.int .i64)) rfl hset (ints_one set) (by simp; omega) (by unfold maxLen; simp; omega) (Nat.le_refl _) ?_; intro v9 w9 hown9 hg9 hl9; rw [Nat.zero_add, List.nil_append, List.length_map] at hown9; have hB9 : Below w8.heap.size w8 w9 := (Below.refl _ w8).grown hg9 (Nat.le_refl _) (fun j hj => by cases hj); have k39 : w9.cell? ⟨P, 3, none⟩ = some (.slice (some ⟨bw, ow, none⟩) Wv.length cw) := (hB9.cell (p := ⟨P, 3, none⟩) hlt8).trans k38; have hs9 := hB9.size; clear hg9 hl9 hset)
                      | (at_builtin; refine wpList_append_slice rfl (.tmp 112) (.tmp 122) 37 rfl w8.heap.size 3 j0 (.int .i64 0) 8 Tryd.underlying37 hj0 hy0 hy1 hy2 rfl _ _ _ rfl (hown9.alloc _) _ [.int .i64 ((M : Int) + (k : Int))] rfl (slice_one _ _ _) (by simp [Value.oneCell']) (by simp; omega) (by unfold maxLen; simp; omega) (by simp; omega) ?_; intro v10 w10 hown10 hg10 hl10)
                      | fail)
                    have hB10 : Below w8.heap.size w8 w10 := (hB9.alloc hs9 _).grown hg10 (by simp; omega) (fun j hj => (hown9.lt j hj).1)
                    have HG10 : Hid (GrowTo P w0 va vb vv vw W2 vo1 w10 vk ((acc ++ (List.range' y (k - y)).flatMap (fun k => growC p q V Wv n set x y f g (i, k))).take 601)) := HG8.out.below hB10
                    have HS10 : Hid (SetIn P vk w10 v10 (set ++ [code Wv.length (i, k)])) := set_made HG8.out hown10 (by rw [HCO.out]; simp)
                    have hrec := HIH.out v10 (.slice a5 o5.length c5) (.slice a6 o6.length c6) vk (set ++ [code Wv.length (i, k)]) o5 o6 i k _ w10 HG10.out.st (GrowIn.next HS10.out (HI8.out.1.below hB10) (HI8.out.2.below hB10) HO5.out HO6.out HNUM.out hxi hlt hyk hlk HSK.out)
                    clear hown9 hown10 hg10 hl10 hB9 hB10 k39 k38 HG8 HI8
                    go_wp2_with fail
                    refine hrec.mono ?_
                    clear hrec
                    rintro e w11 ⟨vn, rfl, hG11⟩
                    have HC : Hid (GrowTo P w0 va vb vv vw W2 vo1 w11 vn ((acc ++ (List.range' y (k + 1 - y)).flatMap (fun k => growC p q V Wv n set x y f g (i, k))).take 601)) := by
                      show GrowTo _ _ _ _ _ _ _ _ _ _ _
                      have h11 := HG10.out.trans hG11
                      rw [grow_next (N := (acc ++ (List.range' y (k + 1 - y)).flatMap (fun k => growC p q V Wv n set x y f g (i, k)))) (by rw [HNEXT.out, growC_yes HSK.out ⟨by rw [← HO5.out]; exact HIN1.out, by rw [← HO6.out]; exact HIN2.out⟩, ← HO5.out, ← HO6.out])] at h11
                      exact h11
                    clear hG11 HG10
                    go_wp2
                    go_roundw
                    case rel => exact ⟨k + 1, vn, ⟨by omega, by omega⟩, by go_num, HC.out⟩
                    case measure => simp [intOf]; omega
                  · have HIN2 : Hid (¬ o6 ∈ q) := hin2
                    clear hin2
                    have HC : Hid (GrowTo P w0 va vb vv vw W2 vo1 w8 vk ((acc ++ (List.range' y (k + 1 - y)).flatMap (fun k => growC p q V Wv n set x y f g (i, k))).take 601)) := by
                      show GrowTo _ _ _ _ _ _ _ _ _ _ _
                      rw [HNEXT.out, growC_no HSK.out (fun e => HIN2.out (by rw [HO6.out]; exact e.2)), List.append_nil]
                      exact HG8.out
                    go_wp2
                    go_roundw
                    case rel => exact ⟨k + 1, vk, ⟨by omega, by omega⟩, by go_num, HC.out⟩
                    case measure => simp [intOf]; omega
                · have HIN1 : Hid (¬ o5 ∈ p) := hin1
                  clear hin1
                  have HC : Hid (GrowTo P w0 va vb vv vw W2 vo1 w7 vk ((acc ++ (List.range' y (k + 1 - y)).flatMap (fun k => growC p q V Wv n set x y f g (i, k))).take 601)) := by
                    show GrowTo _ _ _ _ _ _ _ _ _ _ _
                    rw [HNEXT.out, growC_no HSK.out (fun e => HIN1.out (by rw [HO5.out]; exact e.1)), List.append_nil]
                    exact HG7.out
                  go_wp2
                  go_roundw
                  case rel => exact ⟨k + 1, vk, ⟨by omega, by omega⟩, by go_num, HC.out⟩
                  case measure => simp [intOf]; omega
              · obtain rfl : k = Wv.length := by omega
                have HFE : Hid (GrowTo P w0 va vb vv vw W2 vo1 wk vk ((outs1 ++ (List.range' x (i + 1 - x)).flatMap (growRow p q V Wv n set x y f g)).take 601)) := by
                  show GrowTo _ _ _ _ _ _ _ _ _ _ _
                  rw [HACC.out]
                  exact HGK.out
                clear HGK
                go_wp2
                go_roundw
                case rel => exact ⟨i + 1, vk, ⟨by omega, by omega⟩, by go_num, HFE.out⟩
                case measure => simp [intOf]; omega
          · obtain rfl : i = V.length := by omega
            have HFE : Hid (GrowTo P w0 va vb vv vw W (.slice ao outs.length co) wi vk ((outs ++ growL p q V Wv (n + 1) set x y f g).take 601)) := by
              show GrowTo _ _ _ _ _ _ _ _ _ _ _
              rw [HGE.out]
              exact HT.out.trans HGI.out
            clear HGI
            go_wp2
            refine bodyPost_end (v := .tuple #[]) ?_ rfl ?_
            · simp [results, Tryd.f33, go_sem]
            · exact ⟨vk, rfl, HFE.out⟩
      · have hs0 : 0 < set.length := List.length_pos_iff.2 hs
        have k5 := HT1.out.st.c5
        have z5 := HT1.out.st.z5
        obtain ⟨vs5, h51, h52⟩ := HT1.out.st.own
        have H52 : Hid (∀ (k : Nat) (u : Value) (x : List Int), vs5[k]? = some u → outs[k]? = some x → IntsIn (fun b => P + 1 ≤ b ∧ some b ≠ (Value.slice ao outs.length co).ownBlock) W1 u x) := h52
        have hlt1 := HT1.out.st.lt
        have hne : some P ≠ (Value.slice ao outs.length co).ownBlock := fun e => by have := (HT1.out.st.own.block e.symm).1; omega
        clear h52
        go_wp2_with (first
          | (at_builtin; refine wpList_append_slice rfl (.tmp 34) (.tmp 36) 22 rfl (P + 1) 37 i0 (.slice none 0 0) 24 Tryd.underlying22 hi hz0 hz1 hz2 rfl _ _ _ rfl (h51.alloc _) _ [.slice sa set.length cs] rfl (slice_one _ _ _) (by simp [Value.oneCell']) (by simp; omega) (by unfold maxLen; simp; omega) (by simp; omega) ?_; intro v6 w6 hown6 hg6 hl6; have d5 := far_kept hg6 (p := ⟨P, 5, none⟩) ⟨k5, z5⟩ hne; have HT2 : Hid (GrowTo P w0 va vb vv vw W1 (.slice ao outs.length co) (w6.setCell ⟨P, 5, none⟩ v6) v6 (outs ++ [set])) := HT1.out.st.push h51 H52.out HST.out.1 hown6 hg6 hl6; obtain ⟨g3, p3, rfl, -, -⟩ := hown6.form (by simp); have e5 := d5.1; have f5 := d5.2; clear hown6 hg6 hl6 d5)
          | fail)
        obtain ⟨W2, hW2⟩ : ∃ W2, w6.setCell ⟨P, 5, none⟩ (.slice (some ⟨g3, 0, none⟩) (outs.length + 1) p3) = W2 := ⟨_, rfl⟩
        simp only [List.length_cons, List.length_nil, Nat.zero_add] at HT2
        rw [hW2] at HT2 ⊢
        obtain ⟨vo1, hvo1⟩ : ∃ v, Value.slice (some ⟨g3, 0, none⟩) (outs.length + 1) p3 = v := ⟨_, rfl⟩
        obtain ⟨outs1, houts⟩ : ∃ o, outs ++ [set] = o := ⟨_, rfl⟩
        have HST2 : Hid (SetIn P vo1 W2 (.slice sa set.length cs) set ∧ SetIn P vo1 W2 (.slice fa f.length fc) f ∧ SetIn P vo1 W2 (.slice ga g.length gc) g) := by
          rw [← hvo1]
          exact ⟨HST.out.1.rest HT2.out.rest HT2.out.next, HST.out.2.1.rest HT2.out.rest HT2.out.next, HST.out.2.2.rest HT2.out.rest HT2.out.next⟩
        have HT : Hid (GrowTo P w0 va vb vv vw W (.slice ao outs.length co) W2 vo1 outs1) := by rw [← hvo1, ← houts]; exact HT1.out.trans HT2.out
        have HGE : Hid ((outs ++ growL p q V Wv (n + 1) set x y f g).take 601 = (outs1 ++ (List.range' x (V.length - x)).flatMap (growRow p q V Wv n set x y f g)).take 601) := by
          show _ = _
          rw [HGL.out, if_neg hs, ← List.append_assoc, houts]
        have HOL : Hid (outs1.length ≤ 601) := by show _ ≤ _; rw [← houts, List.length_append]; simp; omega
        have HSE : Hid (set ≠ []) := hs
        clear hvo1 houts HT1 HST HGL hs hW2 HT2 k5 z5 h51 H52 hlt1 hne e5 f5 hol
        go_loopw [12] (fun u wr => ∃ (i : Nat) (vk : Value), (x ≤ i ∧ i ≤ V.length) ∧ u = .int .i64 i ∧ GrowTo P w0 va vb vv vw W2 vo1 wr vk ((outs1 ++ (List.range' x (i - x)).flatMap (growRow p q V Wv n set x y f g)).take 601))
          (fun u _ => V.length - (intOf u).toNat)
        case atStart => exact ⟨x, vo1, ⟨Nat.le_refl _, hxl⟩, rfl, by simp only [Nat.sub_self, List.range'_zero, List.flatMap_nil, List.append_nil]; rw [List.take_of_length_le HOL.out]; exact HT.out.st.refl⟩
        case round =>
          obtain ⟨i, vk, ⟨hxi, hiV⟩, rfl, hGi⟩ := hrel
          obtain ⟨wi, hwi⟩ : ∃ wi : World, wi = wr := ⟨_, rfl⟩
          subst hwi
          have HGI : Hid (GrowTo P w0 va vb vv vw W2 vo1 wi vk ((outs1 ++ (List.range' x (i - x)).flatMap (growRow p q V Wv n set x y f g)).take 601)) := hGi
          have k2 := hGi.st.c2
          rw [HCV.out.1] at k2
          clear hGi
          by_cases hlt : i < V.length
          · obtain ⟨acc, hacc⟩ : ∃ acc, outs1 ++ (List.range' x (i - x)).flatMap (growRow p q V Wv n set x y f g) = acc := ⟨_, rfl⟩
            have HACC : Hid (outs1 ++ (List.range' x (i + 1 - x)).flatMap (growRow p q V Wv n set x y f g) = acc ++ growRow p q V Wv n set x y f g i) := by
              show _ = _
              rw [show i + 1 - x = (i - x) + 1 by omega, flat_snoc, ← List.append_assoc, hacc, show x + (i - x) = i by omega]
            rw [hacc] at HGI
            clear hacc
            go_wp2
            go_loopw [13] (fun u wr => ∃ (k : Nat) (vk : Value), (y ≤ k ∧ k ≤ Wv.length) ∧ u = .int .i64 k ∧ GrowTo P w0 va vb vv vw W2 vo1 wr vk ((acc ++ (List.range' y (k - y)).flatMap (fun k => growC p q V Wv n set x y f g (i, k))).take 601))
              (fun u _ => Wv.length - (intOf u).toNat)
            case atStart => exact ⟨y, vk, ⟨Nat.le_refl _, hyl⟩, rfl, by simp only [Nat.sub_self, List.range'_zero, List.flatMap_nil, List.append_nil]; exact HGI.out⟩
            case round =>
              obtain ⟨k, vk, ⟨hyk, hkW⟩, rfl, hGk⟩ := hrel
              obtain ⟨wk, hwk⟩ : ∃ wk : World, wk = wr := ⟨_, rfl⟩
              subst hwk
              have HGK : Hid (GrowTo P w0 va vb vv vw W2 vo1 wk vk ((acc ++ (List.range' y (k - y)).flatMap (fun k => growC p q V Wv n set x y f g (i, k))).take 601)) := hGk
              have k3 := hGk.st.c3
              rw [HCW.out.1] at k3
              have k2 := hGk.st.c2
              rw [HCV.out.1] at k2
              clear hGk HGI
              by_cases hlk : k < Wv.length
              · have HNEXT : Hid (acc ++ (List.range' y (k + 1 - y)).flatMap (fun k => growC p q V Wv n set x y f g (i, k)) = (acc ++ (List.range' y (k - y)).flatMap (fun k => growC p q V Wv n set x y f g (i, k))) ++ growC p q V Wv n set x y f g (i, k)) := by
                  show _ = _
                  rw [show k + 1 - y = (k - y) + 1 by omega, flat_snoc, ← List.append_assoc, show y + (k - y) = k by omega]
                by_cases hix : i = x
                · by_cases hky : k = y
                  · subst i
                    subst k
                    have HC : Hid (GrowTo P w0 va vb vv vw W2 vo1 wk vk ((acc ++ (List.range' y (y + 1 - y)).flatMap (fun k => growC p q V Wv n set x y f g (x, k))).take 601)) := by
                      show GrowTo _ _ _ _ _ _ _ _ _ _ _
                      rw [HNEXT.out, growC_skip ⟨HSE.out, rfl⟩, List.append_nil]
                      exact HGK.out
                    clear HGK
                    go_wp2
                    go_roundw
                    case rel => exact ⟨y + 1, vk, ⟨by omega, by omega⟩, by go_num, HC.out⟩
                    case measure => simp [intOf]; omega
                  · have hsk : ¬ (set ≠ [] ∧ (i, k) = (x, y)) := fun e => hky (congrArg Prod.snd e.2)
                    subst i
                    have hky' : ¬ ((k : Int) = (y : Int)) := by omega
                    obtain ⟨bv, ov, hav, -, hbv, hcv⟩ := HCV.out.2 (by omega)
                    obtain ⟨bw, ow, haw, -, hbw, hcw⟩ := HCW.out.2 (by omega)
                    have HAV : Hid (av = some ⟨bv, ov, none⟩) := hav
                    have HAW : Hid (aw = some ⟨bw, ow, none⟩) := haw
                    clear hav haw
                    rw [HAV.out] at k2
                    rw [HAW.out] at k3
                    have hto := first_call HGK.out HPP.out HST2.out.2.1 HNUM.out.1.1 (by have := HNUM.out.2.1.2.1; omega) (hcv x hlt) hbv (show 1 ≤ cv - x by omega)
                    go_wp2_with fail
                    refine hto.mono ?_
                    clear hto
                    rintro e w5 ⟨a5, c5, o5, rfl, hO5, hI5, hB5⟩
                    have HO5 : Hid (o5 = insR (vAt V x) f) := hO5
                    have HG5 : Hid (GrowTo P w0 va vb vv vw W2 vo1 w5 vk ((acc ++ (List.range' y (k - y)).flatMap (fun k => growC p q V Wv n set x y f g (x, k))).take 601)) := HGK.out.below hB5
                    have HI5 : Hid (SetIn P vk w5 (.slice a5 o5.length c5) o5) := hI5
                    have k35 := HG5.out.st.c3
                    rw [HCW.out.1, HAW.out] at k35
                    have htg := first_call HG5.out HPP.out HST2.out.2.2 HNUM.out.1.2 (by have := HNUM.out.2.1.2.2; omega) (hcw k hlk) hbw (show 1 ≤ cw - k by omega)
                    clear hO5 hI5 hB5 k3 k2 HGK
                    go_wp2_with fail
                    refine htg.mono ?_
                    clear htg
                    rintro e w6 ⟨a6, c6, o6, rfl, hO6, hI6, hB6⟩
                    have HO6 : Hid (o6 = insR (vAt Wv k) g) := hO6
                    have HG6 : Hid (GrowTo P w0 va vb vv vw W2 vo1 w6 vk ((acc ++ (List.range' y (k - y)).flatMap (fun k => growC p q V Wv n set x y f g (x, k))).take 601)) := HG5.out.below hB6
                    have HI6 : Hid (SetIn P vk w6 (.slice a6 o6.length c6) o6) := hI6
                    have HI56 : Hid (SetIn P vk w6 (.slice a5 o5.length c5) o5) := HI5.out.below hB6
                    have HSK : Hid (¬ (set ≠ [] ∧ (x, k) = (x, y))) := hsk
                    have k06 := HG6.out.st.c0
                    rw [HAB.out.1] at k06
                    have hi1 := index_call HG6.out HPP.out HR.out.1 hp HPQ.out.1 HI56.out
                    rw [HAB.out.1] at hi1
                    clear hO6 hI6 hB6 k35 HG5 HI5 hsk
                    go_wp2_with fail
                    refine hi1.mono ?_
                    clear hi1
                    rintro e w7 ⟨r1, rfl, hr1, hB7⟩
                    have HG7 : Hid (GrowTo P w0 va vb vv vw W2 vo1 w7 vk ((acc ++ (List.range' y (k - y)).flatMap (fun k => growC p q V Wv n set x y f g (x, k))).take 601)) := HG6.out.below hB7
                    have HI7 : Hid (SetIn P vk w7 (.slice a5 o5.length c5) o5 ∧ SetIn P vk w7 (.slice a6 o6.length c6) o6) := ⟨HI56.out.below hB7, HI6.out.below hB7⟩
                    clear hB7 HG6 HI6 HI56 k06
                    rcases hr1 with ⟨hin1, hr1⟩ | ⟨hin1, hr1⟩
                    · have HIN1 : Hid (o5 ∈ p) := hin1
                      have k17 := HG7.out.st.c1
                      rw [HAB.out.2] at k17
                      have hi2 := index_call HG7.out HPP.out HR.out.2 hq HPQ.out.2 HI7.out.2
                      rw [HAB.out.2] at hi2
                      clear hin1
                      go_wp2_with fail
                      refine hi2.mono ?_
                      clear hi2
                      rintro e w8 ⟨r2, rfl, hr2, hB8⟩
                      have HG8 : Hid (GrowTo P w0 va vb vv vw W2 vo1 w8 vk ((acc ++ (List.range' y (k - y)).flatMap (fun k => growC p q V Wv n set x y f g (x, k))).take 601)) := HG7.out.below hB8
                      have HI8 : Hid (SetIn P vk w8 (.slice a5 o5.length c5) o5 ∧ SetIn P vk w8 (.slice a6 o6.length c6) o6) := ⟨HI7.out.1.below hB8, HI7.out.2.below hB8⟩
                      clear hB8 HG7 HI7 k17
                      rcases hr2 with ⟨hin2, hr2⟩ | ⟨hin2, hr2⟩
                      · have HIN2 : Hid (o6 ∈ q) := hin2
                        have hset := (HST2.out.1.rest HG8.out.rest HG8.out.next).ints
                        have hsl : set.length ≤ 400 := by have := HNUM.out.2.1.1; omega
                        have HS8 : Hid (Below P w0 w8) := HG8.out.st.under
                        clear hin2
                        have k38 := HG8.out.st.c3
                        rw [HCW.out.1, HAW.out] at k38
                        have hlt8 := HG8.out.st.lt
                        have hmm : x * Wv.length ≤ 10000 := Nat.mul_le_mul (show x ≤ 100 by omega) hW
                        have hmi : ((x : Int) * (Wv.length : Int)) = ((x * Wv.length : Nat) : Int) := (Int.natCast_mul x Wv.length).symm
                        obtain ⟨M, hM⟩ : ∃ M, x * Wv.length = M := ⟨_, rfl⟩
                        rw [hM] at hmm hmi
                        have HCO : Hid (code Wv.length (x, k) = (M : Int) + (k : Int)) := by
                          show code _ _ = _
                          unfold code
                          rw [← hM, Int.natCast_add]
                        clear hM
                        go_wp2_with (first
                          | (at_builtin; refine wpList_append_slice rfl (.tmp 109) (.tmp 110) 37 rfl w8.heap.size 3 j0 (.int .i64 0) 8 Tryd.underlying37 hj0 hy0 hy1 hy2 rfl _ _ _ rfl (World.ownsRow_nil _ _ _ _) _ (set.map (Value.int .i64)) rfl hset (ints_one set) (by simp; omega) (by unfold maxLen; simp; omega) (Nat.le_refl _) ?_; intro v9 w9 hown9 hg9 hl9; rw [Nat.zero_add, List.nil_append, List.length_map] at hown9; have hB9 : Below w8.heap.size w8 w9 := (Below.refl _ w8).grown hg9 (Nat.le_refl _) (fun j hj => by cases hj); have k39 : w9.cell? ⟨P, 3, none⟩ = some (.slice (some ⟨bw, ow, none⟩) Wv.length cw) := (hB9.cell (p := ⟨P, 3, none⟩) hlt8).trans k38; have hs9 := hB9.size; clear hg9 hl9 hset)
                          | (at_builtin; refine wpList_append_slice rfl (.tmp 112) (.tmp 122) 37 rfl w8.heap.size 3 j0 (.int .i64 0) 8 Tryd.underlying37 hj0 hy0 hy1 hy2 rfl _ _ _ rfl (hown9.alloc _) _ [.int .i64 ((M : Int) + (k : Int))] rfl (slice_one _ _ _) (by simp [Value.oneCell']) (by simp; omega) (by unfold maxLen; simp; omega) (by simp; omega) ?_; intro v10 w10 hown10 hg10 hl10)
                          | fail)
                        have hB10 : Below w8.heap.size w8 w10 := (hB9.alloc hs9 _).grown hg10 (by simp; omega) (fun j hj => (hown9.lt j hj).1)
                        have HG10 : Hid (GrowTo P w0 va vb vv vw W2 vo1 w10 vk ((acc ++ (List.range' y (k - y)).flatMap (fun k => growC p q V Wv n set x y f g (x, k))).take 601)) := HG8.out.below hB10
                        have HS10 : Hid (SetIn P vk w10 v10 (set ++ [code Wv.length (x, k)])) := set_made HG8.out hown10 (by rw [HCO.out]; simp)
                        have hrec := HIH.out v10 (.slice a5 o5.length c5) (.slice a6 o6.length c6) vk (set ++ [code Wv.length (x, k)]) o5 o6 x k _ w10 HG10.out.st (GrowIn.next HS10.out (HI8.out.1.below hB10) (HI8.out.2.below hB10) HO5.out HO6.out HNUM.out hxi hlt hyk hlk HSK.out)
                        clear hown9 hown10 hg10 hl10 hB9 hB10 k39 k38 HG8 HI8
                        go_wp2_with fail
                        refine hrec.mono ?_
                        clear hrec
                        rintro e w11 ⟨vn, rfl, hG11⟩
                        have HC : Hid (GrowTo P w0 va vb vv vw W2 vo1 w11 vn ((acc ++ (List.range' y (k + 1 - y)).flatMap (fun k => growC p q V Wv n set x y f g (x, k))).take 601)) := by
                          show GrowTo _ _ _ _ _ _ _ _ _ _ _
                          have h11 := HG10.out.trans hG11
                          rw [grow_next (N := (acc ++ (List.range' y (k + 1 - y)).flatMap (fun k => growC p q V Wv n set x y f g (x, k)))) (by rw [HNEXT.out, growC_yes HSK.out ⟨by rw [← HO5.out]; exact HIN1.out, by rw [← HO6.out]; exact HIN2.out⟩, ← HO5.out, ← HO6.out])] at h11
                          exact h11
                        clear hG11 HG10
                        go_wp2
                        go_roundw
                        case rel => exact ⟨k + 1, vn, ⟨by omega, by omega⟩, by go_num, HC.out⟩
                        case measure => simp [intOf]; omega
                      · have HIN2 : Hid (¬ o6 ∈ q) := hin2
                        clear hin2
                        have HC : Hid (GrowTo P w0 va vb vv vw W2 vo1 w8 vk ((acc ++ (List.range' y (k + 1 - y)).flatMap (fun k => growC p q V Wv n set x y f g (x, k))).take 601)) := by
                          show GrowTo _ _ _ _ _ _ _ _ _ _ _
                          rw [HNEXT.out, growC_no HSK.out (fun e => HIN2.out (by rw [HO6.out]; exact e.2)), List.append_nil]
                          exact HG8.out
                        go_wp2
                        go_roundw
                        case rel => exact ⟨k + 1, vk, ⟨by omega, by omega⟩, by go_num, HC.out⟩
                        case measure => simp [intOf]; omega
                    · have HIN1 : Hid (¬ o5 ∈ p) := hin1
                      clear hin1
                      have HC : Hid (GrowTo P w0 va vb vv vw W2 vo1 w7 vk ((acc ++ (List.range' y (k + 1 - y)).flatMap (fun k => growC p q V Wv n set x y f g (x, k))).take 601)) := by
                        show GrowTo _ _ _ _ _ _ _ _ _ _ _
                        rw [HNEXT.out, growC_no HSK.out (fun e => HIN1.out (by rw [HO5.out]; exact e.1)), List.append_nil]
                        exact HG7.out
                      go_wp2
                      go_roundw
                      case rel => exact ⟨k + 1, vk, ⟨by omega, by omega⟩, by go_num, HC.out⟩
                      case measure => simp [intOf]; omega
                · have hsk : ¬ (set ≠ [] ∧ (i, k) = (x, y)) := fun e => hix (congrArg Prod.fst e.2)
                  have hix' : ¬ ((i : Int) = (x : Int)) := by omega
                  obtain ⟨bv, ov, hav, -, hbv, hcv⟩ := HCV.out.2 (by omega)
                  obtain ⟨bw, ow, haw, -, hbw, hcw⟩ := HCW.out.2 (by omega)
                  have HAV : Hid (av = some ⟨bv, ov, none⟩) := hav
                  have HAW : Hid (aw = some ⟨bw, ow, none⟩) := haw
                  clear hav haw
                  rw [HAV.out] at k2
                  rw [HAW.out] at k3
                  have hto := first_call HGK.out HPP.out HST2.out.2.1 HNUM.out.1.1 (by have := HNUM.out.2.1.2.1; omega) (hcv i hlt) hbv (show 1 ≤ cv - i by omega)
                  go_wp2_with fail
                  refine hto.mono ?_
                  clear hto
                  rintro e w5 ⟨a5, c5, o5, rfl, hO5, hI5, hB5⟩
                  have HO5 : Hid (o5 = insR (vAt V i) f) := hO5
                  have HG5 : Hid (GrowTo P w0 va vb vv vw W2 vo1 w5 vk ((acc ++ (List.range' y (k - y)).flatMap (fun k => growC p q V Wv n set x y f g (i, k))).take 601)) := HGK.out.below hB5
                  have HI5 : Hid (SetIn P vk w5 (.slice a5 o5.length c5) o5) := hI5
                  have k35 := HG5.out.st.c3
                  rw [HCW.out.1, HAW.out] at k35
                  have htg := first_call HG5.out HPP.out HST2.out.2.2 HNUM.out.1.2 (by have := HNUM.out.2.1.2.2; omega) (hcw k hlk) hbw (show 1 ≤ cw - k by omega)
                  clear hO5 hI5 hB5 k3 k2 HGK
                  go_wp2_with fail
                  refine htg.mono ?_
                  clear htg
                  rintro e w6 ⟨a6, c6, o6, rfl, hO6, hI6, hB6⟩
                  have HO6 : Hid (o6 = insR (vAt Wv k) g) := hO6
                  have HG6 : Hid (GrowTo P w0 va vb vv vw W2 vo1 w6 vk ((acc ++ (List.range' y (k - y)).flatMap (fun k => growC p q V Wv n set x y f g (i, k))).take 601)) := HG5.out.below hB6
                  have HI6 : Hid (SetIn P vk w6 (.slice a6 o6.length c6) o6) := hI6
                  have HI56 : Hid (SetIn P vk w6 (.slice a5 o5.length c5) o5) := HI5.out.below hB6
                  have HSK : Hid (¬ (set ≠ [] ∧ (i, k) = (x, y))) := hsk
                  have k06 := HG6.out.st.c0
                  rw [HAB.out.1] at k06
                  have hi1 := index_call HG6.out HPP.out HR.out.1 hp HPQ.out.1 HI56.out
                  rw [HAB.out.1] at hi1
                  clear hO6 hI6 hB6 k35 HG5 HI5 hsk
                  go_wp2_with fail
                  refine hi1.mono ?_
                  clear hi1
                  rintro e w7 ⟨r1, rfl, hr1, hB7⟩
                  have HG7 : Hid (GrowTo P w0 va vb vv vw W2 vo1 w7 vk ((acc ++ (List.range' y (k - y)).flatMap (fun k => growC p q V Wv n set x y f g (i, k))).take 601)) := HG6.out.below hB7
                  have HI7 : Hid (SetIn P vk w7 (.slice a5 o5.length c5) o5 ∧ SetIn P vk w7 (.slice a6 o6.length c6) o6) := ⟨HI56.out.below hB7, HI6.out.below hB7⟩
                  clear hB7 HG6 HI6 HI56 k06
                  rcases hr1 with ⟨hin1, hr1⟩ | ⟨hin1, hr1⟩
                  · have HIN1 : Hid (o5 ∈ p) := hin1
                    have k17 := HG7.out.st.c1
                    rw [HAB.out.2] at k17
                    have hi2 := index_call HG7.out HPP.out HR.out.2 hq HPQ.out.2 HI7.out.2
                    rw [HAB.out.2] at hi2
                    clear hin1
                    go_wp2_with fail
                    refine hi2.mono ?_
                    clear hi2
                    rintro e w8 ⟨r2, rfl, hr2, hB8⟩
                    have HG8 : Hid (GrowTo P w0 va vb vv vw W2 vo1 w8 vk ((acc ++ (List.range' y (k - y)).flatMap (fun k => growC p q V Wv n set x y f g (i, k))).take 601)) := HG7.out.below hB8
                    have HI8 : Hid (SetIn P vk w8 (.slice a5 o5.length c5) o5 ∧ SetIn P vk w8 (.slice a6 o6.length c6) o6) := ⟨HI7.out.1.below hB8, HI7.out.2.below hB8⟩
                    clear hB8 HG7 HI7 k17
                    rcases hr2 with ⟨hin2, hr2⟩ | ⟨hin2, hr2⟩
                    · have HIN2 : Hid (o6 ∈ q) := hin2
                      have hset := (HST2.out.1.rest HG8.out.rest HG8.out.next).ints
                      have hsl : set.length ≤ 400 := by have := HNUM.out.2.1.1; omega
                      have HS8 : Hid (Below P w0 w8) := HG8.out.st.under
                      clear hin2
                      have k38 := HG8.out.st.c3
                      rw [HCW.out.1, HAW.out] at k38
                      have hlt8 := HG8.out.st.lt
                      have hmm : i * Wv.length ≤ 10000 := Nat.mul_le_mul (show i ≤ 100 by omega) hW
                      have hmi : ((i : Int) * (Wv.length : Int)) = ((i * Wv.length : Nat) : Int) := (Int.natCast_mul i Wv.length).symm
                      obtain ⟨M, hM⟩ : ∃ M, i * Wv.length = M := ⟨_, rfl⟩
                      rw [hM] at hmm hmi
                      have HCO : Hid (code Wv.length (i, k) = (M : Int) + (k : Int)) := by
                        show code _ _ = _
                        unfold code
                        rw [← hM, Int.natCast_add]
                      clear hM
                      go_wp2_with (first
                        | (at_builtin; refine wpList_append_slice rfl (.tmp 109) (.tmp 110) 37 rfl w8.heap.size 3 j0 (.int .i64 0) 8 Tryd.underlying37 hj0 hy0 hy1 hy2 rfl _ _ _ rfl (World.ownsRow_nil _ _ _ _) _ (set.map (Value.int .i64)) rfl hset (ints_one set) (by simp; omega) (by unfold maxLen; simp; omega) (Nat.le_refl _) ?_; intro v9 w9 hown9 hg9 hl9; rw [Nat.zero_add, List.nil_append, List.length_map] at hown9; have hB9 : Below w8.heap.size w8 w9 := (Below.refl _ w8).grown hg9 (Nat.le_refl _) (fun j hj => by cases hj); have k39 : w9.cell? ⟨P, 3, none⟩ = some (.slice (some ⟨bw, ow, none⟩) Wv.length cw) := (hB9.cell (p := ⟨P, 3, none⟩) hlt8).trans k38; have hs9 := hB9.size; clear hg9 hl9 hset)
                        | (at_builtin; refine wpList_append_slice rfl (.tmp 112) (.tmp 122) 37 rfl w8.heap.size 3 j0 (.int .i64 0) 8 Tryd.underlying37 hj0 hy0 hy1 hy2 rfl _ _ _ rfl (hown9.alloc _) _ [.int .i64 ((M : Int) + (k : Int))] rfl (slice_one _ _ _) (by simp [Value.oneCell']) (by simp; omega) (by unfold maxLen; simp; omega) (by simp; omega) ?_; intro v10 w10 hown10 hg10 hl10)
                        | fail)
                      have hB10 : Below w8.heap.size w8 w10 := (hB9.alloc hs9 _).grown hg10 (by simp; omega) (fun j hj => (hown9.lt j hj).1)
                      have HG10 : Hid (GrowTo P w0 va vb vv vw W2 vo1 w10 vk ((acc ++ (List.range' y (k - y)).flatMap (fun k => growC p q V Wv n set x y f g (i, k))).take 601)) := HG8.out.below hB10
                      have HS10 : Hid (SetIn P vk w10 v10 (set ++ [code Wv.length (i, k)])) := set_made HG8.out hown10 (by rw [HCO.out]; simp)
                      have hrec := HIH.out v10 (.slice a5 o5.length c5) (.slice a6 o6.length c6) vk (set ++ [code Wv.length (i, k)]) o5 o6 i k _ w10 HG10.out.st (GrowIn.next HS10.out (HI8.out.1.below hB10) (HI8.out.2.below hB10) HO5.out HO6.out HNUM.out hxi hlt hyk hlk HSK.out)
                      clear hown9 hown10 hg10 hl10 hB9 hB10 k39 k38 HG8 HI8
                      go_wp2_with fail
                      refine hrec.mono ?_
                      clear hrec
                      rintro e w11 ⟨vn, rfl, hG11⟩
                      have HC : Hid (GrowTo P w0 va vb vv vw W2 vo1 w11 vn ((acc ++ (List.range' y (k + 1 - y)).flatMap (fun k => growC p q V Wv n set x y f g (i, k))).take 601)) := by
                        show GrowTo _ _ _ _ _ _ _ _ _ _ _
                        have h11 := HG10.out.trans hG11
                        rw [grow_next (N := (acc ++ (List.range' y (k + 1 - y)).flatMap (fun k => growC p q V Wv n set x y f g (i, k)))) (by rw [HNEXT.out, growC_yes HSK.out ⟨by rw [← HO5.out]; exact HIN1.out, by rw [← HO6.out]; exact HIN2.out⟩, ← HO5.out, ← HO6.out])] at h11
                        exact h11
                      clear hG11 HG10
                      go_wp2
                      go_roundw
                      case rel => exact ⟨k + 1, vn, ⟨by omega, by omega⟩, by go_num, HC.out⟩
                      case measure => simp [intOf]; omega
                    · have HIN2 : Hid (¬ o6 ∈ q) := hin2
                      clear hin2
                      have HC : Hid (GrowTo P w0 va vb vv vw W2 vo1 w8 vk ((acc ++ (List.range' y (k + 1 - y)).flatMap (fun k => growC p q V Wv n set x y f g (i, k))).take 601)) := by
                        show GrowTo _ _ _ _ _ _ _ _ _ _ _
                        rw [HNEXT.out, growC_no HSK.out (fun e => HIN2.out (by rw [HO6.out]; exact e.2)), List.append_nil]
                        exact HG8.out
                      go_wp2
                      go_roundw
                      case rel => exact ⟨k + 1, vk, ⟨by omega, by omega⟩, by go_num, HC.out⟩
                      case measure => simp [intOf]; omega
                  · have HIN1 : Hid (¬ o5 ∈ p) := hin1
                    clear hin1
                    have HC : Hid (GrowTo P w0 va vb vv vw W2 vo1 w7 vk ((acc ++ (List.range' y (k + 1 - y)).flatMap (fun k => growC p q V Wv n set x y f g (i, k))).take 601)) := by
                      show GrowTo _ _ _ _ _ _ _ _ _ _ _
                      rw [HNEXT.out, growC_no HSK.out (fun e => HIN1.out (by rw [HO5.out]; exact e.1)), List.append_nil]
                      exact HG7.out
                    go_wp2
                    go_roundw
                    case rel => exact ⟨k + 1, vk, ⟨by omega, by omega⟩, by go_num, HC.out⟩
                    case measure => simp [intOf]; omega
              · obtain rfl : k = Wv.length := by omega
                have HFE : Hid (GrowTo P w0 va vb vv vw W2 vo1 wk vk ((outs1 ++ (List.range' x (i + 1 - x)).flatMap (growRow p q V Wv n set x y f g)).take 601)) := by
                  show GrowTo _ _ _ _ _ _ _ _ _ _ _
                  rw [HACC.out]
                  exact HGK.out
                clear HGK
                go_wp2
                go_roundw
                case rel => exact ⟨i + 1, vk, ⟨by omega, by omega⟩, by go_num, HFE.out⟩
                case measure => simp [intOf]; omega
          · obtain rfl : i = V.length := by omega
            have HFE : Hid (GrowTo P w0 va vb vv vw W (.slice ao outs.length co) wi vk ((outs ++ growL p q V Wv (n + 1) set x y f g).take 601)) := by
              show GrowTo _ _ _ _ _ _ _ _ _ _ _
              rw [HGE.out]
              exact HT.out.trans HGI.out
            clear HGI
            go_wp2
            refine bodyPost_end (v := .tuple #[]) ?_ rfl ?_
            · simp [results, Tryd.f33, go_sem]
            · exact ⟨vk, rfl, HFE.out⟩

end Go.Proofs.YtkmecdgnoemimaaDoor
