/- What index.Fixed answers of a map. What index.Lefschetz answers of a map. -/
import Derived.Test.YthmjdfjchhohgaaGreatDoorIdxMCheck
import Derived.Test.YthmjdfjchhohgaaGreatDoorIdxDel
namespace Go.Proofs.YthmjdfjchhohgaaGreatDoor
open Go.RowKit Go.Sort Go.Lib

set_option maxRecDepth 100000 in
theorem delete_empty (a : Option Addr) (c mb : Nat) (w : World) :
    Calls Tryz.prog 48 #[.slice a 0 c, .func (.func 49) #[] #[.pointer (some ⟨mb, 0, none⟩)]] w fun e w' => e = .returned (.slice a 0 c) ∧ Below w.heap.size w w' := by
  have hix : ∀ W, Calls Tryz.prog 77 #[.slice a 0 c, .func (.func 49) #[] #[.pointer (some ⟨mb, 0, none⟩)]] W fun e w' => e = .returned (.int .i64 (-1)) ∧ Below W.heap.size W w' := fun W => by
    go_enter Tryz.func77, Tryz.ntmps77
    go_wp2_with fail
    go_loopw [8] (fun q V => q = .int .i64 0 ∧ V = W) (fun _ _ => 0)
    case atStart => exact ⟨rfl, rfl⟩
    case round =>
      obtain ⟨rfl, hW⟩ := hrel
      obtain rfl : W = wr := hW.symm
      clear hW
      go_wp2_with fail
      go_ret
      exact ⟨rfl, Below.refl _ _⟩
  have h1 := hix w
  clear hix
  go_enter Tryz.func48, Tryz.ntmps48
  go_wp2_with fail
  refine h1.mono ?_
  rintro e V ⟨rfl, hV⟩
  go_wp2_with fail
  go_ret
  exact ⟨rfl, hV⟩

/-- DeleteFunc of a map's faces leaves those that it takes onto themselves. -/
theorem delete_faces {B mb : Nat} {F : Nat → Int} {L : List (List Int)} {w0 w : World} {u : Value} (hf : FacesIs (fun b => b < B) B w u L) (hm : MapgAt mb w u F) (hmb : ∀ G, u.ownBlock = some G → mb ≠ G) (hB : w0.heap.size ≤ B) (h0 : Below w0.heap.size w0 w) (hL : L.length ≤ 1000)
    (hx : ∀ x ∈ L, x ≠ [] ∧ x.length ≤ 7 ∧ (∀ v ∈ x, 0 ≤ v ∧ v ≤ 99) ∧ Rising x) :
    Calls Tryz.prog 48 #[u, .func (.func 49) #[] #[.pointer (some ⟨mb, 0, none⟩)]] w fun e w' => ∃ v, e = .returned v ∧ Rows w' v (L.filter (fixB fun v => F v.toNat)) ∧ Below w0.heap.size w0 w' := by
  obtain ⟨a, c, us, rfl, how, hhe⟩ := hf
  rcases how.2 with ⟨e1, e2⟩ | ⟨G, cap, cur, e1, hGB, -⟩
  · have hl0 : L = [] := by
      have : L.length = 0 := by injection e1
      exact List.length_eq_zero_iff.1 this
    subst hl0
    refine (delete_empty a c mb w).mono fun e w' ⟨h1, h2⟩ => ⟨_, h1, ?_, h0.trans (h2.mono h0.size)⟩
    have hr : Rows w (.slice a [].length c) [] := ⟨us, slice_of_owns how (fun _ _ _ => trivial), hhe.1, fun k u x hu hx => (hhe.2 k u x hu hx).mono fun _ _ _ => trivial⟩
    exact hr.below h2
  · have hul : us.length = L.length := hhe.1
    have hZ1 : (us.zip L).map (·.1) = us := by
      have := List.map_fst_zip (l₁ := us) (l₂ := L) (by omega)
      exact this
    have hZ2 : (us.zip L).map (·.2) = L := by
      have := List.map_snd_zip (l₁ := us) (l₂ := L) (by omega)
      exact this
    have hZl : (us.zip L).length = L.length := by rw [List.length_zip]; omega
    have e3 : a = some ⟨G, 0, none⟩ ∧ c = cap := by cases e1; exact ⟨rfl, rfl⟩
    obtain ⟨rfl, rfl⟩ := e3
    have hmG : mb ≠ G := hmb G rfl
    have hrows : ∀ z ∈ us.zip L, IntsIn (fun b => b ≠ G) w z.1 z.2 := fun z hz => by
      obtain ⟨k, hk, rfl⟩ := List.getElem_of_mem hz
      have h1 : us[k]? = some (us.zip L)[k].1 := by rw [List.getElem_zip]; exact List.getElem?_eq_getElem (by rw [List.length_zip] at hk; omega)
      have h2 : L[k]? = some (us.zip L)[k].2 := by rw [List.getElem_zip]; exact List.getElem?_eq_getElem (by rw [List.length_zip] at hk; omega)
      exact (hhe.2 k _ _ h1 h2).mono fun b _ hb => by omega
    have hdl : DelL w0.heap.size G c mb (.slice (some ⟨G, 0, none⟩) L.length c) F (fixB fun v => F v.toNat) (us.zip L) w0 w 0 ((us.zip L).map (·.1)) :=
      ⟨by rw [hZ1, hZl]; exact owns_base how hB, by simp [kpF], by simp, ⟨hm, hrows⟩, h0⟩
    have hg : GoesF mb G (.slice (some ⟨G, 0, none⟩) L.length c) F (fixB fun v => F v.toNat) (us.zip L) := goes_fixed fun z hz => by
      have hzL : z.2 ∈ L := by rw [← hZ2]; exact List.mem_map_of_mem hz
      obtain ⟨h1, h2, h3, h4⟩ := hx z.2 hzL
      exact ⟨h4, h1, h2, h3⟩
    have := delete_goes c w0 w hg hmG (by omega) h0.size hdl
    rw [hZl] at this
    refine this.mono fun e w' ⟨v, h1, h2, h3⟩ => ⟨v, h1, ?_, h3⟩
    have he : ((us.zip L).filter fun z => fixB (fun v => F v.toNat) z.2).map (·.2) = L.filter (fixB fun v => F v.toNat) := by
      conv => rhs; rw [← hZ2, List.filter_map]
      rfl
    rw [← he]
    exact h2

set_option maxRecDepth 100000 in
set_option maxHeartbeats 1000000 in
theorem fixed_good {a : Nat → Addr} {p : Int} {F : Nat → Int} {L : List (List Int)} (va vf : Value) (w : World) (hL : L.length ≤ 1000) (hx : ∀ x ∈ L, x ≠ [] ∧ x.length ≤ 7 ∧ (∀ v ∈ x, 0 ≤ v ∧ v ≤ 99) ∧ Rising x)
    (hop : ∀ W, Below w.heap.size w W → Calls Tryz.prog 45 #[.agg #[va], .agg #[va], vf] W fun e w' => OpenEnd a 0 p F L W e w') :
    Calls Tryz.prog 21 #[.agg #[va], vf] w fun e w' => Below w.heap.size w w' ∧ ∃ v, e = .returned (.tuple #[v, .nilIface]) ∧ Rows w' v (L.filter (fixB fun v => F v.toNat)) := by
  obtain ⟨hz, hsz⟩ := zero_of_info (P := Tryz.prog) (t := 83) (v := .agg map0.toArray) (n := 101) (by kernel_rfl)
  have hBa : Below w.heap.size w (w.alloc (.cells #[va] 33)) := (Below.refl _ w).alloc (Nat.le_refl _) _
  have HOP := Hid.mk' hop
  have HBB := Hid.mk' hBa
  have HX := Hid.mk' hx
  clear hop hBa hx
  go_enter Tryz.func21, Tryz.ntmps21
  go_wp2_with fail
  refine (HOP.out _ HBB.out).mono ?_
  rintro e V ⟨hV, ⟨hc, -⟩ | ⟨hc, v, rfl, B', u, hB', hfu, rfl⟩⟩
  · omega
  · obtain ⟨au, cu, us, rfl, how, hhe⟩ := hfu
    have hfu : FacesIs (fun b => b < B') B' V (.slice au L.length cu) L := ⟨au, cu, us, rfl, how, hhe⟩
    obtain ⟨W3, hst, hBV, hmg⟩ := map_boxed (V := V) au L.length cu F
    have hml : (mapC (.slice au L.length cu) F).length = 101 := mapC_len _ _
    have HB := Hid.mk' ((HBB.out.trans (hV.mono HBB.out.size)).trans (hBV.mono (HBB.out.trans (hV.mono HBB.out.size)).size))
    have c0 := hmg.face
    have hde := delete_faces (w0 := w) (hfu.below hBV) hmg (fun G hG => by
      have := (World.ownsRow.lt how G hG).2
      omega) (Nat.le_trans HBB.out.size hB') HB.out hL HX.out
    obtain ⟨b, hb⟩ : ∃ b, V.heap.size = b := ⟨_, rfl⟩
    rw [hb] at hst c0 hde
    clear hV hBV hB' how hhe hfu hmg
    go_wp2_with fail
    refine hde.mono ?_
    clear hde
    rintro e W4 ⟨v, rfl, hr, hB4⟩
    have HR := Hid.mk' hr
    obtain ⟨av, cv, rfl, -, -⟩ := hr.open_
    clear hr
    go_wp2_with fail
    go_ret2
    exact ⟨hB4, _, rfl, HR.out⟩

end Go.Proofs.YthmjdfjchhohgaaGreatDoor

namespace Go.Proofs.YthmjdfjchhohgaaGreatDoor
open Go.RowKit Go.Sort Go.Lib

def evN (n : Nat) : Int := if n % 2 = 1 then 1 else -1
/-- The program's sum: over all faces. -/
def lefP (ht : Int → Int) (L : List (List Int)) : Int := (L.map fun x => evN x.length * sgnF ht x).sum
theorem lefP_filter (ht : Int → Int) : ∀ L : List (List Int), lefP ht L = lefL ht (L.filter (fixB ht))
  | [] => rfl
  | x :: L => by
    have ih := lefP_filter ht L
    unfold lefP lefL at ih ⊢
    rw [List.map_cons, List.sum_cons, ih, List.filter_cons]
    cases h : fixB ht x
    · rw [(sgnF_zero ht x).2 h]; simp
    · rw [if_pos rfl, List.map_cons, List.sum_cons]
      congr 1
      unfold sgnF lefF evN
      rw [if_pos h]
      rcases Nat.mod_two_eq_zero_or_one x.length with e | e
      · rw [if_neg (by omega), if_pos e]; omega
      · rw [if_pos e, if_neg (by omega)]; omega
theorem evN_or (n : Nat) : evN n = 1 ∨ evN n = -1 := by
  unfold evN
  split
  · exact .inl rfl
  · exact .inr rfl
theorem sgnF_or (ht : Int → Int) (x : List Int) : sgnF ht x = 0 ∨ sgnF ht x = 1 ∨ sgnF ht x = -1 := by
  unfold sgnF
  split
  · exact .inr (signN_or _)
  · exact .inl rfl
theorem lefP_succ (ht : Int → Int) {L : List (List Int)} {k : Nat} (hk : k < L.length) : lefP ht (L.take (k + 1)) = lefP ht (L.take k) + evN (L[k]?.getD []).length * sgnF ht (L[k]?.getD []) := by
  unfold lefP
  rw [List.take_add_one, List.getElem?_eq_getElem hk, List.map_append, List.sum_append]
  simp
theorem lefP_small (ht : Int → Int) : ∀ L : List (List Int), -(L.length : Int) ≤ lefP ht L ∧ lefP ht L ≤ L.length
  | [] => by simp [lefP]
  | x :: L => by
    have ih := lefP_small ht L
    unfold lefP at ih ⊢
    rw [List.map_cons, List.sum_cons, List.length_cons]
    rcases evN_or x.length with e | e <;> rcases sgnF_or ht x with f | f | f <;> rw [e, f] <;> omega

def spL (o e s : Int) (m : Nat) (vx vm : Value) : Nat → World → Value → Prop
  | 0, _, v => v = .int .i64 o
  | 1, _, v => v = vx
  | 2, _, v => v = .int .i64 (m : Int)
  | 3, _, v => v = .int .i64 ((m : Int) - 1)
  | 4, _, v => v = .int .i64 e
  | 5, _, v => v = vm
  | 6, _, v => v = vx
  | 7, _, v => v = vx
  | 8, _, v => v = .int .i64 s
  | 9, _, v => v = .int .i64 (e * s)
  | 10, _, v => v = .int .i64 (o + e * s)
  | _, _, _ => True
theorem spL_below {o e s : Int} {m : Nat} {vx vm : Value} : ∀ i (w w' : World) v, i < 11 → Below w.heap.size w w' → spL o e s m vx vm i w v → spL o e s m vx vm i w' v := fun i w w' v hi _ h => by
  match i, hi with
  | 0, _ => exact h
  | 1, _ => exact h
  | 2, _ => exact h
  | 3, _ => exact h
  | 4, _ => exact h
  | 5, _ => exact h
  | 6, _ => exact h
  | 7, _ => exact h
  | 8, _ => exact h
  | 9, _ => exact h
  | 10, _ => exact h
  | k + 11, hk => exact absurd hk (by omega)

set_option maxRecDepth 100000 in
set_option maxHeartbeats 2000000 in
theorem lef_good {a : Nat → Addr} {p : Int} {F : Nat → Int} {L : List (List Int)} (va vf : Value) (w : World) (hL : L.length ≤ 1000) (hx : ∀ x ∈ L, x ≠ [] ∧ x.length ≤ 7 ∧ (∀ v ∈ x, 0 ≤ v ∧ v ≤ 99) ∧ Rising x)
    (hop : ∀ W, Below w.heap.size w W → Calls Tryz.prog 45 #[.agg #[va], .agg #[va], vf] W fun e w' => OpenEnd a 0 p F L W e w') :
    Calls Tryz.prog 20 #[.agg #[va], vf] w fun e w' => Below w.heap.size w w' ∧ e = .returned (.tuple #[.int .i64 (lefP (fun v => F v.toNat) L), .nilIface]) := by
  obtain ⟨hz, hsz⟩ := zero_of_info (P := Tryz.prog) (t := 83) (v := .agg map0.toArray) (n := 101) (by kernel_rfl)
  have hBa : Below w.heap.size w (w.alloc (.cells #[va] 33)) := (Below.refl _ w).alloc (Nat.le_refl _) _
  have HOP := Hid.mk' hop
  have HBB := Hid.mk' hBa
  have HX := Hid.mk' hx
  obtain ⟨ht, hht⟩ : ∃ ht : Int → Int, (fun v : Int => F v.toNat) = ht := ⟨_, rfl⟩
  have HHT := Hid.mk' hht
  rw [hht]
  obtain ⟨n, hn⟩ : ∃ n, L.length = n := ⟨_, rfl⟩
  have HN := Hid.mk' hn
  clear hop hBa hx hht
  go_enter Tryz.func20, Tryz.ntmps20
  go_wp2_with fail
  refine (HOP.out _ HBB.out).mono ?_
  rintro e V ⟨hV, ⟨hc, -⟩ | ⟨hc, v, rfl, B', u, hB', hfu, rfl⟩⟩
  · omega
  · obtain ⟨au, cu, us, rfl, how, hhe⟩ := hfu
    have hfu : FacesIs (fun b => b < B') B' V (.slice au L.length cu) L := ⟨au, cu, us, rfl, how, hhe⟩
    obtain ⟨W3, hst, hBV, hmg⟩ := map_boxed (V := V) au L.length cu F
    have hml : (mapC (.slice au L.length cu) F).length = 101 := mapC_len _ _
    have HB := Hid.mk' ((HBB.out.trans (hV.mono HBB.out.size)).trans (hBV.mono (HBB.out.trans (hV.mono HBB.out.size)).size))
    have c0 := hmg.face
    have HF := Hid.mk' (hfu.below hBV).rows
    have HMG := Hid.mk' hmg
    obtain ⟨b, hb⟩ : ∃ b, V.heap.size = b := ⟨_, rfl⟩
    rw [hb] at hst c0 HMG
    rw [hn] at hst c0 hml HMG ⊢
    clear hV hBV hB' how hhe hfu hmg hn
    go_wp2_with fail
    clear hst hb hml
    go_loopw [8, 24] (fun o x W => ∃ k : Nat, k ≤ n ∧ x = .int .i64 k ∧ o = .int .i64 (lefP ht (L.take k)) ∧ Hid (MapgAt b W (.slice au n cu) F ∧ Rows W (.slice au L.length cu) L ∧ Below w.heap.size w W)) (fun _ x _ => n - (intOf x).toNat)
    case atStart => exact ⟨0, by omega, rfl, rfl, HMG.out, HF.out, HB.out⟩
    case round =>
      obtain ⟨k, hk, rfl, rfl, HK⟩ := hrel
      by_cases hkn : k < n
      · obtain ⟨bF, oF, ax, cx, hau, hbF, hcell, hix⟩ := rows_heads HK.out.2.1 k (by rw [HN.out]; exact hkn)
        subst hau
        have hxm : L[k]?.getD [] ∈ L := by rw [List.getElem?_eq_getElem (by rw [HN.out]; exact hkn)]; exact List.getElem_mem _
        have HXK := Hid.mk' (HX.out _ hxm)
        have hsu := lefP_succ ht (L := L) (k := k) (by rw [HN.out]; exact hkn)
        have hsm := lefP_small ht (L.take k)
        have hlt : (L.take k).length ≤ k := by rw [List.length_take]; omega
        have hn1000 : n ≤ 1000 := by rw [← HN.out]; exact hL
        obtain ⟨x, hxe⟩ : ∃ x, L[k]?.getD [] = x := ⟨_, rfl⟩
        rw [hxe] at hcell hix HXK hsu
        have HIX : Hid (Ints wr (.slice ax x.length cx) x) := hix
        obtain ⟨m, hm⟩ : ∃ m, x.length = m := ⟨_, rfl⟩
        have HM := Hid.mk' hm
        rw [hm] at hcell HIX hsu
        obtain ⟨o, ho⟩ : ∃ o, lefP ht (L.take k) = o := ⟨_, rfl⟩
        rw [ho] at hsu hsm ⊢
        have hev := evN_or m
        have hsg := sgnF_or ht x
        obtain ⟨ev, hevd⟩ : ∃ ev, evN m = ev := ⟨_, rfl⟩
        obtain ⟨sg, hsgd⟩ : ∃ sg, sgnF ht x = sg := ⟨_, rfl⟩
        have HEV := Hid.mk' hevd
        have HSG := Hid.mk' hsgd
        rw [hevd, hsgd] at hsu
        rw [hevd] at hev
        rw [hsgd] at hsg
        have hpr : ev * sg = 0 ∨ ev * sg = 1 ∨ ev * sg = -1 := by
          rcases hev with e | e <;> rcases hsg with f | f | f <;> rw [e, f] <;> simp
        have hw1 : IntKind.i64.wrap (ev * sg) = ev * sg := by rcases hpr with e | e | e <;> rw [e] <;> rfl
        have hw2 : IntKind.i64.wrap (o + ev * sg) = o + ev * sg := wrapI (by rcases hpr with e | e | e <;> rw [e] <;> omega) (by rcases hpr with e | e | e <;> rw [e] <;> omega)
        have hm1 : 1 ≤ m := by rw [← HM.out]; exact List.length_pos_iff.2 HXK.out.1
        have hm7 : m ≤ 7 := by rw [← HM.out]; exact HXK.out.2.1
        have hw3 : IntKind.i64.wrap ((m : Int) - 1) = (m : Int) - 1 := wrapI (by omega) (by omega)
        have HSU := Hid.mk' hsu
        clear hxe hix hxm hm ho hsu hsm hlt hev hsg hevd hsgd hpr
        go_wp2_with fail
        refine region_grow (by kernel_rfl) 11 rfl (fun i => 28 + i) (spL o ev sg m (.slice ax m cx) (.agg (mapC (.slice (some ⟨bF, oF, none⟩) n cu) F).toArray)) (fun i j _ _ h => by omega) (fun i hi => by simp; omega) spL_below (by decide +kernel) (by decide +kernel) (fun j hj Z ac w9 hG hed => ?_) (fun Z ac w9 hG hed => ?_)
        · have hg9 := HK.out.1.below hG.bel
          have y6 : ac.tmps[6]? = some (.pointer (some ⟨b, 0, none⟩)) := (hG.oth 6 (fun i hi => by omega)).trans rfl
          have y8 : ac.tmps[8]? = some (.int .i64 o) := (hG.oth 8 (fun i hi => by omega)).trans rfl
          have y10 : ac.tmps[10]? = some (.slice ax m cx) := (hG.oth 10 (fun i hi => by omega)).trans rfl
          have hv : ∀ j2, j2 < 11 → j2 ∈ edgesOf _ j → ∃ v, ac.tmps[28 + j2]? = some v ∧ spL o ev sg m (.slice ax m cx) (.agg (mapC (.slice (some ⟨bF, oF, none⟩) n cu) F).toArray) j2 w9 v := fun j2 h1 h2 => hG.val j2 h1 (hed j2 h2)
          match j, hj with
          | 0, _ => exact op_value rfl rfl (by unfold execOp; simp [go_sem, Act.eval, y8]) ⟨_, rfl, rfl, Below.refl _ _⟩
          | 1, _ => exact op_value rfl rfl (by unfold execOp; simp [go_sem, Act.eval, y10]) ⟨_, rfl, rfl, Below.refl _ _⟩
          | 2, _ =>
            obtain ⟨v1, e1, h1⟩ := hv 1 (by omega) (by decide +kernel)
            have z1 : ac.tmps[29]? = some v1 := e1
            obtain rfl : v1 = _ := h1
            exact op_value rfl rfl (by unfold execOp; simp [go_sem, Act.eval, z1]) ⟨_, rfl, rfl, Below.refl _ _⟩
          | 3, _ =>
            obtain ⟨v1, e1, h1⟩ := hv 2 (by omega) (by decide +kernel)
            have z1 : ac.tmps[30]? = some v1 := e1
            obtain rfl : v1 = _ := h1
            exact op_value rfl rfl (by unfold execOp; simp [go_sem, Act.eval, z1, hw3]) ⟨_, rfl, rfl, Below.refl _ _⟩
          | 4, _ =>
            obtain ⟨v1, e1, h1⟩ := hv 3 (by omega) (by decide +kernel)
            have z1 : ac.tmps[31]? = some v1 := e1
            obtain rfl : v1 = _ := h1
            refine op_call rfl rfl (by unfold execOp; simp [go_sem, Act.eval, z1]) _ (evenness_ m hm1 (by omega) w9) fun e w' hh => ?_
            obtain ⟨rfl, rfl⟩ := hh
            exact ⟨_, rfl, _, rfl, by rw [← HEV.out]; rfl, Below.refl _ _⟩
          | 5, _ => exact op_value rfl rfl (exec_load rfl (eval_tmp y6) hg9.loadAt) ⟨_, rfl, rfl, Below.refl _ _⟩
          | 6, _ => exact op_value rfl rfl (by unfold execOp; simp [go_sem, Act.eval, y10]) ⟨_, rfl, rfl, Below.refl _ _⟩
          | 7, _ => exact op_value rfl rfl (by unfold execOp; simp [go_sem, Act.eval, y10]) ⟨_, rfl, rfl, Below.refl _ _⟩
          | 8, _ =>
            obtain ⟨v5, e5, h5⟩ := hv 5 (by omega) (by decide +kernel)
            have z5 : ac.tmps[33]? = some v5 := e5
            obtain rfl : v5 = _ := h5
            obtain ⟨v6, e6, h6⟩ := hv 6 (by omega) (by decide +kernel)
            have z6 : ac.tmps[34]? = some v6 := e6
            obtain rfl : v6 = _ := h6
            obtain ⟨v7, e7, h7⟩ := hv 7 (by omega) (by decide +kernel)
            have z7 : ac.tmps[35]? = some v7 := e7
            obtain rfl : v7 = _ := h7
            have hsf := sign_fix (.slice (some ⟨bF, oF, none⟩) n cu) F _ x w9 (HIX.out.below hG.bel) HXK.out.2.1 HXK.out.1 HXK.out.2.2.1 HXK.out.2.2.2
            rw [HHT.out, HSG.out] at hsf
            refine op_call rfl rfl (by unfold execOp; simp [go_sem, Act.eval, z5, z6, z7]) _ hsf fun e w' hh => ?_
            obtain ⟨rfl, hb⟩ := hh
            exact ⟨_, rfl, _, rfl, rfl, hb⟩
          | 9, _ =>
            obtain ⟨v4, e4, h4⟩ := hv 4 (by omega) (by decide +kernel)
            have z4 : ac.tmps[32]? = some v4 := e4
            obtain rfl : v4 = _ := h4
            obtain ⟨v8, e8, h8⟩ := hv 8 (by omega) (by decide +kernel)
            have z8 : ac.tmps[36]? = some v8 := e8
            obtain rfl : v8 = _ := h8
            exact op_value rfl rfl (by unfold execOp; simp [go_sem, Act.eval, z4, z8, hw1]) ⟨_, rfl, rfl, Below.refl _ _⟩
          | 10, _ =>
            obtain ⟨v0, e0, h0⟩ := hv 0 (by omega) (by decide +kernel)
            have z0 : ac.tmps[28]? = some v0 := e0
            obtain rfl : v0 = _ := h0
            obtain ⟨v9, e9, h9⟩ := hv 9 (by omega) (by decide +kernel)
            have z9 : ac.tmps[37]? = some v9 := e9
            obtain rfl : v9 = _ := h9
            exact op_value rfl rfl (by unfold execOp; simp [go_sem, Act.eval, z0, z9, hw2]) ⟨_, rfl, rfl, Below.refl _ _⟩
          | k + 11, hk => exact absurd hk (by omega)
        · obtain ⟨v0, e0, h0⟩ := hG.val 0 (by omega) (back_listed hG.down 11 hed 0 (by decide +kernel))
          obtain ⟨v1, e1, h1⟩ := hG.val 1 (by omega) (back_listed hG.down 11 hed 1 (by decide +kernel))
          obtain ⟨v2, e2, h2⟩ := hG.val 2 (by omega) (back_listed hG.down 11 hed 2 (by decide +kernel))
          obtain ⟨v3, e3, h3⟩ := hG.val 3 (by omega) (back_listed hG.down 11 hed 3 (by decide +kernel))
          obtain ⟨v4, e4, h4⟩ := hG.val 4 (by omega) (back_listed hG.down 11 hed 4 (by decide +kernel))
          obtain ⟨v5, e5, h5⟩ := hG.val 5 (by omega) (back_listed hG.down 11 hed 5 (by decide +kernel))
          obtain ⟨v6, e6, h6⟩ := hG.val 6 (by omega) (back_listed hG.down 11 hed 6 (by decide +kernel))
          obtain ⟨v7, e7, h7⟩ := hG.val 7 (by omega) (back_listed hG.down 11 hed 7 (by decide +kernel))
          obtain ⟨v8, e8, h8⟩ := hG.val 8 (by omega) (back_listed hG.down 11 hed 8 (by decide +kernel))
          obtain ⟨v9, e9, h9⟩ := hG.val 9 (by omega) (back_listed hG.down 11 hed 9 (by decide +kernel))
          obtain ⟨v10, e10, h10⟩ := hG.val 10 (by omega) (back_listed hG.down 11 hed 10 (by decide +kernel))
          have z10 : ac.tmps[38]? = some v10 := e10
          obtain rfl : v10 = _ := h10
          have hact := act_puts hG.asz hG.dfr [(28, v0), (29, v1), (30, v2), (31, v3), (32, v4), (33, v5), (34, v6), (35, v7), (36, v8), (37, v9), (38, .int .i64 (o + ev * sg))] (by
            intro pr hpr
            simp only [List.mem_cons, List.not_mem_nil, or_false] at hpr
            rcases hpr with rfl | rfl | rfl | rfl | rfl | rfl | rfl | rfl | rfl | rfl | rfl
            · exact e0
            · exact e1
            · exact e2
            · exact e3
            · exact e4
            · exact e5
            · exact e6
            · exact e7
            · exact e8
            · exact e9
            · exact e10) (fun k hk => hG.oth k fun i hi => by
              have h28 := hk (28, v0) (by simp)
              have h29 := hk (29, v1) (by simp)
              have h30 := hk (30, v2) (by simp)
              have h31 := hk (31, v3) (by simp)
              have h32 := hk (32, v4) (by simp)
              have h33 := hk (33, v5) (by simp)
              have h34 := hk (34, v6) (by simp)
              have h35 := hk (35, v7) (by simp)
              have h36 := hk (36, v8) (by simp)
              have h37 := hk (37, v9) (by simp)
              have h38 := hk (38, .int .i64 (o + ev * sg)) (by simp)
              simp only at h28 h29 h30 h31 h32 h33 h34 h35 h36 h37 h38
              omega)
          simp only [List.foldl_cons, List.foldl_nil, List.setIfInBounds_toArray, List.set_cons_succ, List.set_cons_zero] at hact
          have HKK := Hid.mk' (And.intro (HK.out.1.below hG.bel) (And.intro (HK.out.2.1.below hG.bel) (HK.out.2.2.trans (hG.bel.mono HK.out.2.2.size))))
          refine op_value (v := .int .i64 (o + ev * sg)) (w' := w9) rfl rfl (by unfold execOp; simp [go_sem, Act.eval, z10]) ?_
          rename_i hK
          refine hK _ _ ?_
          rw [hact]
          clear hact hK hG hed e0 e1 e2 e3 e4 e5 e6 e7 e8 e9 e10 z10 h0 h1 h2 h3 h4 h5 h6 h7 h8 h9 hw1 hw2 hw3 HIX hcell HK
          show Code.wp _ _ _ (Act.put _ (some 8) _) _
          simp only [Act.put, List.setIfInBounds_toArray, List.set_cons_succ, List.set_cons_zero]
          go_wp2_with fail
          go_roundw
          case rel => exact ⟨k + 1, by omega, by go_num, by rw [HSU.out], HKK.out⟩
          case measure => simp [intOf]; omega
      · obtain rfl : k = n := by omega
        have HE : Hid (lefP ht (L.take k) = lefP ht L) := by
          show _ = _
          rw [← HN.out, List.take_length]
        rw [HE.out]
        go_wp2_with fail
        go_ret2
        exact ⟨HK.out.2.2, rfl⟩

end Go.Proofs.YthmjdfjchhohgaaGreatDoor
