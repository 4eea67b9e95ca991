/- What the reference's OfDim answers: the faces of a dimension. The reference's DeltaOf: faces an odd number of whose parts are among the given ones. -/
import Derived.Test.YtldknhganoiajaaGreatDoorMade
import Derived.Test.YtldknhganoiajaaGreatDoorOpen
import Derived.Test.YtldknhganoiajaaGreatDoorCupRefSpan
import Derived.Test.YtldknhganoiajaaGreatDoorRefC
namespace Go.Proofs.YtldknhganoiajaaGreatDoor
open Go.RowKit Go.Sort

set_option maxRecDepth 100000 in
set_option maxHeartbeats 1000000 in
theorem of_dim (va : Value) (all : List (List Int)) (dim : Int) (w : World) (ha : Rows w va all) (hl : all.length ≤ 1000) (hx : ∀ x ∈ all, x.length ≤ 1000) :
    Calls Tryz.prog 42 #[va, .int .i64 dim] w fun e w' => ∃ v, e = .returned v ∧ Rows w' v (ofDim all dim) ∧ Below w.heap.size w w' := by
  obtain ⟨i0, hi, hz0, hz1, hz2⟩ := info_parts Tryz.info39
  obtain ⟨a, ca, rfl, -, hc⟩ := ha.open_
  have HX : Hid (∀ x ∈ all, x.length ≤ 1000) := hx
  clear hx ha
  go_enter Tryz.func42, Tryz.ntmps42
  go_wp2
  go_loopw [5, 6] (fun v p wr => ∃ (k : Nat) (us : List Value), k ≤ all.length ∧ p = .int .i64 k ∧ wr.ownsRow w.heap.size 39 1 v us.length us ∧ Heads w us (ofDim (all.take k) dim) ∧ Below w.heap.size w wr)
    (fun _ p _ => all.length - (intOf p).toNat)
  case atStart => exact ⟨0, [], by omega, rfl, World.ownsRow_nil _ _ _ _, ⟨by simp [ofDim], fun k u x h => by simp at h⟩, Below.refl _ _⟩
  case round =>
    obtain ⟨k, us, hk, rfl, hown, hh, hB⟩ := hrel
    have HH : Hid (Heads w us (ofDim (all.take k) dim)) := hh
    have hul : us.length ≤ 1000 := by have := hh.1; have := ofDim_length (all.take k) dim; simp at this; omega
    clear hh
    by_cases hlt : k < all.length
    · obtain ⟨b, o, rfl, -, hb, c⟩ := hc (by omega)
      obtain ⟨a1, p1, g1, i1⟩ := c k hlt
      have hlen : (all[k]?.getD []).length ≤ 1000 := HX.out _ (by rw [List.getElem?_eq_getElem hlt]; simp)
      obtain ⟨x, hxe⟩ : ∃ x, all[k]?.getD [] = x := ⟨_, rfl⟩
      rw [hxe] at g1 i1 hlen
      have g2 : wr.cell? ⟨b, o + k, none⟩ = some (.slice a1 x.length p1) := (hB.cell (p := ⟨b, o + k, none⟩) hb).trans g1
      have HI1 : Hid (Ints w (.slice a1 x.length p1) x) := i1
      have HF : Hid (ofDim (all.take (k + 1)) dim = ofDim (all.take k) dim ++ (if (x.length : Int) - 1 = dim then [x] else [])) := by
        show ofDim (all.take (k + 1)) dim = _
        rw [ofDim_succ hlt, hxe]
      have hbs := hB.size
      clear hxe i1 g1 hc c
      by_cases hd : (x.length : Int) - 1 = dim
      · have hdb : ((x.length : Int) - 1 == dim) = true := beq_iff_eq.2 hd
        have HD : Hid ((x.length : Int) - 1 = dim) := hd
        clear hd
        go_wp2_with (first
          | (at_builtin; refine wpList_append_slice rfl (.tmp 21) (.tmp 26) 22 rfl w.heap.size 39 i0 (.slice none 0 0) 24 Tryz.underlying22 hi hz0 hz1 hz2 rfl _ _ _ rfl (hown.alloc _) _ [.slice a1 x.length p1] rfl (slice_one _ _ _) (by simp [Value.oneCell']) (by simp; omega) (by unfold maxLen; simp; omega) (by simp; omega) ?_; intro v3 w4 hown3 hg3 hl3)
          | go_in)
        (try go_frame)
        go_roundw
        case rel => exact ⟨k + 1, us ++ [.slice a1 x.length p1], by omega, by go_num, by simpa using hown3, by rw [HF.out, if_pos HD.out]; exact HH.out.snoc HI1.out, (hB.alloc hbs _).grown hg3 (by simp; omega) (fun j hj => (hown.lt j hj).1)⟩
        case measure => simp [intOf]; omega
      · have hdb : ((x.length : Int) - 1 == dim) = false := beq_false_of_ne hd
        have HD : Hid (¬ (x.length : Int) - 1 = dim) := hd
        clear hd
        go_wp2
        go_roundw
        case rel => exact ⟨k + 1, us, by omega, by go_num, hown, by rw [HF.out, if_neg HD.out, List.append_nil]; exact HH.out, hB⟩
        case measure => simp [intOf]; omega
    · obtain rfl : k = all.length := by omega
      clear hc
      go_wp2
      go_ret
      have hh := HH.out
      rw [List.take_length] at hh
      exact ⟨_, rfl, hh.rows hB hown, hB⟩

end Go.Proofs.YtldknhganoiajaaGreatDoor

namespace Go.Proofs.YtldknhganoiajaaGreatDoor
open Go.RowKit Go.Sort

set_option maxRecDepth 100000 in
set_option maxHeartbeats 2000000 in
theorem deltaOfOwn_ (va vf : Value) (all : List (List Int)) (d : Nat) (hd : d ≤ 100) (f : List Int) (w : World) (ha : Rows w va all) (hl : all.length ≤ 60) (hx : ∀ x ∈ all, x.length ≤ 1000) (hf : Ints w vf f) (hfl : f.length ≤ 60) (hok : OkCo (ofDim all (d : Int)).length f) :
    Calls Tryz.prog 43 #[va, .int .i64 (d : Int), vf] w fun e w' => ∃ v, e = .returned v ∧ w'.ownsRow w.heap.size 3 1 v (deltaL all d f).length ((natsI (deltaL all d f)).map (Value.int .i64)) ∧ Below w.heap.size w w' := by
  obtain ⟨i0, hi, hz0, hz1, hz2⟩ := info_parts Tryz.info3
  have ecast : ((d : Int) + 1) = ((d + 1 : Nat) : Int) := by omega
  have hof1 := of_dim va all (d : Int) w ha (by omega) hx
  have HOF2 : Hid (∀ W, Below w.heap.size w W → Calls Tryz.prog 42 #[va, .int .i64 ((d : Int) + 1)] W fun e w' => ∃ v, e = .returned v ∧ Rows w' v (ofDim all ((d + 1 : Nat) : Int)) ∧ Below W.heap.size W w') := fun W hW => by
    have h := of_dim va all ((d : Int) + 1) W (ha.below hW) (by omega) hx
    rw [ecast] at h ⊢
    exact h
  have HFI := Hid.mk' hf
  have HOK := Hid.mk' hok
  have HXX := Hid.mk' hx
  obtain ⟨aa, ca, rfl, -, -⟩ := ha.open_
  obtain ⟨af, cf, rfl, -, hfx⟩ := hf.open_
  have HFX := Hid.mk' hfx
  obtain ⟨m, hm⟩ : ∃ m, f.length = m := ⟨_, rfl⟩
  have HM := Hid.mk' hm
  obtain ⟨A0, hA0⟩ : ∃ A0, all.length = A0 := ⟨_, rfl⟩
  rw [hm] at hfl ⊢
  rw [hA0] at hof1 HOF2 ⊢
  have HN60 : Hid ((ofDim all (d : Int)).length ≤ 60 ∧ (ofDim all ((d + 1 : Nat) : Int)).length ≤ 60) := ⟨Nat.le_trans (ofDim_length _ _) hl, Nat.le_trans (ofDim_length _ _) hl⟩
  have HDL : Hid (∀ y z, y ∈ ofDim all (d : Int) → z ∈ ofDim all ((d + 1 : Nat) : Int) → y.length ≤ 1000 ∧ z.length ≤ 1000) := fun y z hy hz => ⟨hx y (mem_ofDim hy).1, hx z (mem_ofDim hz).1⟩
  clear ha hf hok hm hfx hA0 hx hl ecast
  go_enter Tryz.func43, Tryz.ntmps43
  go_wp2_with fail
  refine hof1.mono ?_
  clear hof1
  rintro e W1 ⟨v1, rfl, hv1, hW1⟩
  have hof2 := HOF2.out W1 hW1
  obtain ⟨a1, c1, rfl, -, -⟩ := hv1.open_
  have H1 := Hid.mk' (And.intro hv1 hW1)
  clear hv1 hW1
  go_wp2_with fail
  refine hof2.mono ?_
  clear hof2
  rintro e W2 ⟨v2, rfl, hv2, hW2⟩
  have H2 : Hid (Rows W2 (.slice a1 (ofDim all (d : Int)).length c1) (ofDim all (d : Int)) ∧ Rows W2 v2 (ofDim all ((d + 1 : Nat) : Int)) ∧ Ints W2 (.slice af f.length cf) f ∧ Below w.heap.size w W2) := ⟨H1.out.1.below hW2, hv2, (HFI.out.below H1.out.2).below hW2, H1.out.2.trans (hW2.mono H1.out.2.size)⟩
  obtain ⟨a2, c2, rfl, -, hx2⟩ := hv2.open_
  have HX2 := Hid.mk' hx2
  obtain ⟨a1', c1', e1, -, hx1⟩ := H2.out.1.open_
  cases e1
  have HX1 := Hid.mk' hx1
  obtain ⟨a3', c3', e3, -, hx3⟩ := H2.out.2.2.1.open_
  cases e3
  have HX3 := Hid.mk' hx3
  obtain ⟨n, hn⟩ : ∃ n, (ofDim all ((d + 1 : Nat) : Int)).length = n := ⟨_, rfl⟩
  obtain ⟨N, hN⟩ : ∃ N, (ofDim all (d : Int)).length = N := ⟨_, rfl⟩
  have HNN := Hid.mk' (And.intro hn hN)
  have hn6 : n ≤ 60 := by have := HN60.out.2; omega
  rw [hn, hN]
  clear H1 hv2 hW2 hx1 hx2 hx3 hn hN
  go_wp2_with fail
  go_loopw [9, 10] (fun v p W => ∃ (k : Nat) (L : List Nat), k ≤ n ∧ p = .int .i64 (k : Int) ∧ Hid (L = (List.range k).filter (oddL all d f) ∧ W.ownsRow W2.heap.size 3 1 v L.length ((natsI L).map (Value.int .i64)) ∧ Below W2.heap.size W2 W)) (fun _ p _ => n - (intOf p).toNat)
  case atStart => exact ⟨0, [], by omega, rfl, rfl, World.ownsRow_nil _ _ _ _, Below.refl _ _⟩
  case round =>
    obtain ⟨k, L, hk, rfl, HR⟩ := hrel
    obtain ⟨aL, cL, rfl⟩ := own_form HR.out.2.1
    have hLl : L.length ≤ 60 := by
      rw [HR.out.1]
      have := List.length_filter_le (oddL all d f) (List.range k)
      rw [List.length_range] at this; omega
    obtain ⟨M, hM⟩ : ∃ M, L.length = M := ⟨_, rfl⟩
    have HMM := Hid.mk' hM
    rw [hM] at hLl ⊢
    clear hM
    by_cases hlt : k < n
    · have hkn : k < (ofDim all ((d + 1 : Nat) : Int)).length := by rw [HNN.out.1]; exact hlt
      obtain ⟨b2, o2, rfl, -, hb2, hc2⟩ := HX2.out (by omega)
      obtain ⟨a4, c4, g4, i4⟩ := hc2 k hkn
      obtain ⟨z, hz⟩ : ∃ z, (ofDim all ((d + 1 : Nat) : Int))[k]?.getD [] = z := ⟨_, rfl⟩
      have hzm : z ∈ ofDim all ((d + 1 : Nat) : Int) := by rw [← hz, List.getElem?_eq_getElem hkn]; exact List.getElem_mem hkn
      rw [hz] at g4 i4
      have HZ : Hid (faceD all (d + 1) k = z ∧ z ∈ ofDim all ((d + 1 : Nat) : Int)) := ⟨hz, hzm⟩
      have g5 : wr.cell? ⟨b2, o2 + k, none⟩ = some (.slice a4 z.length c4) := (HR.out.2.2.cell (p := ⟨b2, o2 + k, none⟩) hb2).trans g4
      have H4 : Hid (Ints wr (.slice a4 z.length c4) z) := i4.below HR.out.2.2
      obtain ⟨wo, hwo⟩ : ∃ W, W = wr := ⟨_, rfl⟩
      subst hwo
      obtain ⟨zl, hzl⟩ : ∃ zl, z.length = zl := ⟨_, rfl⟩
      have HZL := Hid.mk' hzl
      rw [hzl] at g5 H4
      clear hz hzm hzl g4 i4 hc2 hb2
      go_wp2_with fail
      go_loopw [11, 12] (fun s p W => ∃ (j q : Nat) (t : Bool), j ≤ m ∧ p = .int .i64 (j : Int) ∧ s = .bool t ∧ W = wo.drewN q ∧ Hid (t = oddL all d (f.take j) k)) (fun _ p _ => m - (intOf p).toNat)
      case atStart => exact ⟨0, 0, false, by omega, rfl, rfl, rfl, rfl⟩
      case round =>
        obtain ⟨j, q, t, hj, rfl, rfl, hw, HT⟩ := hrel
        have HW := Hid.mk' hw
        have g6 : wr.cell? ⟨b2, o2 + k, none⟩ = some (.slice a4 zl c4) := by rw [hw]; exact g5
        by_cases hjl : j < m
        · have hjf : j < f.length := by rw [HM.out]; exact hjl
          obtain ⟨b3, o3, rfl, -, hb3, hc3⟩ := HX3.out (by omega)
          have g7 : wr.cell? ⟨b3, o3 + j, none⟩ = some (.int .i64 (f[j]?.getD 0)) := by rw [hw]; exact (HR.out.2.2.cell (p := ⟨b3, o3 + j, none⟩) hb3).trans (hc3 j hjf)
          obtain ⟨x, hxk⟩ : ∃ x, f[j]?.getD 0 = x := ⟨_, rfl⟩
          have hxr := HOK.out.2 x (by rw [← hxk, List.getElem?_eq_getElem hjf]; exact List.getElem_mem hjf)
          obtain ⟨y, rfl⟩ : ∃ y : Nat, x = (y : Int) := ⟨x.toNat, by omega⟩
          have hyN : y < (ofDim all (d : Int)).length := by omega
          have hyn : y < N := by rw [← HNN.out.2]; exact hyN
          obtain ⟨b1, o1, rfl, -, hb1, hc1⟩ := HX1.out (by omega)
          obtain ⟨a8, c8, g8, i8⟩ := hc1 y hyN
          obtain ⟨x8, hx8⟩ : ∃ x8, (ofDim all (d : Int))[y]?.getD [] = x8 := ⟨_, rfl⟩
          have hxm : x8 ∈ ofDim all (d : Int) := by rw [← hx8, List.getElem?_eq_getElem hyN]; exact List.getElem_mem hyN
          rw [hx8] at g8 i8
          rw [hxk] at g7
          have g9 : wr.cell? ⟨b1, o1 + y, none⟩ = some (.slice a8 x8.length c8) := by rw [hw]; exact (HR.out.2.2.cell (p := ⟨b1, o1 + y, none⟩) hb1).trans g8
          have hlen := HDL.out x8 z hxm HZ.out.2
          have hpo : ∀ r, Calls Tryz.prog 55 #[.slice a8 x8.length c8, .slice a4 zl c4] (wr.drewN r) fun e w' => e = .returned (.bool (partB x8 z)) ∧ ∃ q, w' = (wr.drewN r).drewN q := fun r => part_of _ _ x8 z (wr.drewN r) (by rw [hw]; exact (show Ints wo (.slice a8 x8.length c8) x8 from i8.below HR.out.2.2)) (by rw [hw]; exact H4.out) (by omega) (by omega)
          have HST : Hid (oddL all d (f.take (j + 1)) k = (t ^^ partB x8 z)) := by
            show oddL all d (f.take (j + 1)) k = (t ^^ partB x8 z)
            rw [oddL_take all d hjf k, ← HT.out, hxk, HZ.out.1]
            have : faceD all d y = x8 := hx8
            rw [Int.toNat_natCast, this]
          obtain ⟨xl, hxl⟩ : ∃ xl, x8.length = xl := ⟨_, rfl⟩
          rw [hxl] at g9 hpo
          obtain ⟨u, hu⟩ : ∃ u, partB x8 z = u := ⟨_, rfl⟩
          rw [hu] at hpo HST
          clear hxl hu hxk hx8 hxm g8 i8 hc1 hb1 hc3 hb3 hw hlen hyN hxr
          cases u with
          | true =>
            go_wp2_with fail
            go_quiet ((go_at_call 55; exact Calls.quiet_of (hpo _)))
            go_wp2_with fail
            go_roundw
            case rel => exact ⟨j + 1, _, !t, by omega, by go_num, rfl, by rw [HW.out, World.drewN_drewN], by rw [HST.out]; cases t <;> rfl⟩
            case measure => simp [intOf]; omega
          | false =>
            go_wp2_with fail
            go_quiet ((go_at_call 55; exact Calls.quiet_of (hpo _)))
            go_wp2_with fail
            go_roundw
            case rel => exact ⟨j + 1, _, t, by omega, by go_num, rfl, by rw [HW.out, World.drewN_drewN], by rw [HST.out]; cases t <;> rfl⟩
            case measure => simp [intOf]; omega
        · have hjm : j = m := by omega
          subst hjm
          have HO : Hid (t = oddL all d f k) := by
            have h1 := HT.out
            rw [← HM.out, List.take_length] at h1
            exact h1
          have HB : Hid (Below W2.heap.size W2 wr ∧ wr.ownsRow W2.heap.size 3 1 (.slice aL M cL) M ((natsI L).map (Value.int .i64))) := by
            rw [HW.out]
            refine ⟨HR.out.2.2.trans (drew_below wo q), ?_⟩
            have h1 := HR.out.2.1
            rw [HMM.out] at h1
            exact h1.kept (Below.grownBy (drew_below wo q)) (by cases (Value.slice aL M cL).ownBlock <;> simp)
          have HF : Hid ((List.range (k + 1)).filter (oddL all d f) = if t = true then L ++ [k] else L) := by
            show (List.range (k + 1)).filter (oddL all d f) = if t = true then L ++ [k] else L
            rw [filter_next, ← HR.out.1, ← HO.out]
          clear hw HT HO
          cases t with
          | true =>
            go_wp2_with (first
              | (at_builtin; refine wpList_append_slice rfl (.tmp 47) (.tmp 49) 39 rfl W2.heap.size 3 i0 (.int .i64 0) 8 Tryz.underlying39 hi hz0 hz1 hz2 rfl _ _ _ rfl (HB.out.2.alloc _) _ [.int .i64 (k : Int)] rfl (slice_one _ _ _) (by simp [Value.oneCell']) (by simp; omega) (by unfold maxLen; simp; omega) (by have := HB.out.1.size; simp; omega) ?_; intro v6 w6 hown6 hg6 hl6)
              | fail)
            have HE : Hid (w6.ownsRow W2.heap.size 3 1 v6 (L ++ [k]).length ((natsI (L ++ [k])).map (Value.int .i64)) ∧ Below W2.heap.size W2 w6) := by
              refine ⟨by rw [natsI_snoc, List.length_append, HMM.out]; exact hown6, ?_⟩
              exact (HB.out.1.alloc HB.out.1.size _).grown hg6 (by have := HB.out.1.size; simp; omega) (fun j hj => by have := (HB.out.2.lt j hj).1; omega)
            obtain ⟨a6, c6, rfl⟩ := own_form hown6
            clear hown6 hg6 hl6
            go_wp2_with fail
            go_roundw
            case rel => exact ⟨k + 1, L ++ [k], by omega, by go_num, by rw [HF.out]; simp, HE.out.1, HE.out.2⟩
            case measure => simp [intOf]; omega
          | false =>
            go_wp2_with fail
            go_roundw
            case rel => exact ⟨k + 1, L, by omega, by go_num, by rw [HF.out]; simp, by rw [HMM.out]; exact HB.out.2, HB.out.1⟩
            case measure => simp [intOf]; omega
    · have hkm : k = n := by omega
      subst hkm
      go_wp2_with fail
      go_ret
      rw [← HMM.out]
      refine ⟨_, rfl, ?_, H2.out.2.2.2.trans (HR.out.2.2.mono H2.out.2.2.2.size)⟩
      have e : deltaL all d f = L := by rw [HR.out.1]; unfold deltaL; rw [HNN.out.1]
      have hs := HR.out.2.1
      rw [e]
      exact ⟨hs.1, hs.2.imp id fun ⟨g, cap, cur, e, h1, h2⟩ => ⟨g, cap, cur, e, Nat.le_trans H2.out.2.2.2.size h1, h2⟩⟩
theorem deltaOf_ (va vf : Value) (all : List (List Int)) (d : Nat) (hd : d ≤ 100) (f : List Int) (w : World) (ha : Rows w va all) (hl : all.length ≤ 60) (hx : ∀ x ∈ all, x.length ≤ 1000) (hf : Ints w vf f) (hfl : f.length ≤ 60) (hok : OkCo (ofDim all (d : Int)).length f) :
    Calls Tryz.prog 43 #[va, .int .i64 (d : Int), vf] w fun e w' => ∃ v, e = .returned v ∧ IntsIn (fun b => w.heap.size ≤ b) w' v (natsI (deltaL all d f)) ∧ Below w.heap.size w w' :=
  (deltaOfOwn_ va vf all d hd f w ha hl hx hf hfl hok).mono fun e w' h => by
    obtain ⟨v, h1, h2, h3⟩ := h
    exact ⟨v, h1, slice_of_owns h2 (fun b hb _ => hb), h3⟩

end Go.Proofs.YtldknhganoiajaaGreatDoor
