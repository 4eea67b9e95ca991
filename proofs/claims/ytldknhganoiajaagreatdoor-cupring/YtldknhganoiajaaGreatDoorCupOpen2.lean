/- The walk of open of a complex. -/
import Derived.Test.YtldknhganoiajaaGreatDoorCupOpen
import Derived.Test.YtldknhganoiajaaGreatDoorCupRow
namespace Go.Proofs.YtldknhganoiajaaGreatDoor
open Go.RowKit Go.Sort Go.Maps Go.Deep

theorem Tryz.info73 : (Tryz.prog.info? 73).map (fun i => (i.zero, i.size, i.bytes)) = some (some (.slice none 0 0), 1, 24) := by kernel_rfl
theorem wfN {x : Int} (h0 : -10000000 ≤ x) (h1 : x ≤ 10000000) : (Lit.int .i64 x).wf = true := by
  have e1 : IntKind.min .i64 = -9223372036854775808 := rfl
  have e2 : IntKind.max .i64 = 9223372036854775807 := rfl
  simp only [Lit.wf, e1, e2, Bool.and_eq_true, decide_eq_true_eq]
  omega
theorem face_bytes {l all : List (List Int)} (hg : Good l all) {x : List Int} (hx : x ∈ all) : ∀ v ∈ x, 0 ≤ v ∧ v ≤ 99 := (face_ok_of hg hx).1.2.2
theorem mem_ofDim {all : List (List Int)} {d : Int} {x : List Int} (h : x ∈ ofDim all d) : x ∈ all ∧ (x.length : Int) - 1 = d := by
  have := List.mem_filter.1 h
  exact ⟨this.1, by simpa using this.2⟩
theorem ofDim_nodup {l all : List (List Int)} (hg : Good l all) (d : Int) : (ofDim all d).Nodup := (order_nodup hg.isAll.order).filter _
theorem idxF_at {l all : List (List Int)} (hg : Good l all) {d : Int} {j : Nat} (hj : j < (ofDim all d).length) : idxF all ((ofDim all d)[j]?.getD []) = j := by
  have hm : (ofDim all d)[j] ∈ ofDim all d := List.getElem_mem hj
  unfold idxF
  rw [List.getElem?_eq_getElem hj, Option.getD_some, (mem_ofDim hm).2]
  exact (ofDim_nodup hg d).idxOf_getElem j hj
theorem take_face {L : List (List Int)} {j : Nat} (hj : j < L.length) : L.take (j + 1) = L.take j ++ [L[j]?.getD []] := by
  rw [List.take_add_one, List.getElem?_eq_getElem hj]; rfl
theorem NumAt.push {w' : World} {g n : Nat} {all L : List (List Int)} {D : DataW Unit} {x : List Int} (hD : Tidy D) (hL : ∀ y ∈ L, ∀ v ∈ y, 0 ≤ v ∧ v ≤ 99) (hx : ∀ v ∈ x, 0 ≤ v ∧ v ≤ 99)
    (h2 : ∀ y ∈ L, D.atKey (.string (txt y)) (.lit (.int .i64 0)) = .lit (.int .i64 (idxF all y : Int))) (h1 : w'.ownsMap Tryz.prog 9 (plainElem Tryz.prog 3) g n (D.put (.string (txt x)) (.lit (.int .i64 (idxF all x : Int))))) (hn : n = L.length + 1) : NumAt w' g all (L ++ [x]) := by
  refine ⟨_, by rw [List.length_append, List.length_singleton, ← hn]; exact h1, fun y hy => ?_⟩
  by_cases e : txt y = txt x
  · have hy9 : ∀ v ∈ y, 0 ≤ v ∧ v ≤ 99 := by
      rcases List.mem_append.1 hy with h | h
      · exact hL y h
      · rw [List.mem_singleton] at h; subst h; exact hx
    obtain rfl := txt_inj hy9 hx e
    rw [atKey_put_same hD.isMap (string_key _)]
  · rw [atKey_put_other (string_ne e)]
    rcases List.mem_append.1 hy with h | h
    · exact h2 y h
    · rw [List.mem_singleton] at h; subst h; exact absurd rfl e
theorem upToD_len (all : List (List Int)) : ∀ K, (upToD all K).length ≤ K * all.length
  | 0 => by simp [upToD]
  | K + 1 => by
    rw [upToD_succ, List.length_append, Nat.succ_mul]
    have := upToD_len all K
    have := ofDim_length all (K : Int)
    omega
theorem txtEnc_take {L : List (List Int)} {j : Nat} (hj : j < L.length) : ((L.take (j + 1)).map txt).map encStr = ((L.take j).map txt).map encStr ++ [encStr (txt (L[j]?.getD []))] := by rw [take_face hj]; simp

set_option maxRecDepth 100000 in
set_option maxHeartbeats 2000000 in
theorem cupOpen_own {a : Nat → Addr} {s : Nat → ByteArray} {l all : List (List Int)} (hg : Good l all) (vl : Value) (w : World) (hE : Errs a s w) (hl : Rows w vl l) (hll : l.length ≤ 100000) (hle : ∀ x ∈ l, x.length ≤ 1000) :
    Calls Tryz.prog 17 #[.agg #[vl]] w fun e w' => ∃ v, e = .returned (.tuple #[v, .nilIface]) ∧ ShapeS (fun b => w.heap.size ≤ b) w' v all ∧ Below w.heap.size w w' := by
  obtain ⟨i0, hi, hz0, hz1, hz2⟩ := info_parts Tryz.info9
  obtain ⟨i1, hi1, hy0, hy1, hy2⟩ := info_parts Tryz.info73
  obtain ⟨al, cl, rfl, -, -⟩ := hl.open_
  have hB1 : Below w.heap.size w ((w.alloc (.cells #[.slice al l.length cl] 31)).alloc (.cells #[.slice none 0 0, .map none] 46)) := ((Below.refl _ w).alloc (Nat.le_refl _) _).alloc (by simp) _
  have hv := vector_good hg (.slice al l.length cl) _ (hE.below hB1) (hl.below hB1) hll hle
  have HF : Hid (∀ (d : Int) (W : World), Below w.heap.size w W → Calls Tryz.prog 33 #[.agg #[.slice al l.length cl], .int .i64 d] W fun e w' => ∃ v, e = .returned (.tuple #[v, .nilIface]) ∧ RowsIn (fun b => W.heap.size ≤ b) w' v (ofDim all d) ∧ Below W.heap.size W w') := fun d W hW => faces_good hg (.slice al l.length cl) d W (hE.below hW) (hl.below hW) hll hle
  have q0 := (box_new w (.slice al l.length cl) 31).1
  have q1 := cells_two (w.alloc (.cells #[.slice al l.length cl] 31)) (.slice none 0 0) (.map none) 46
  rw [World.size_alloc] at q1
  have q2 : ((w.alloc (.cells #[.slice al l.length cl] 31)).alloc (.cells #[.slice none 0 0, .map none] 46)).cell? ⟨w.heap.size, 0, none⟩ = some (.slice al l.length cl) := (World.cell?_alloc_lt _ _ ⟨w.heap.size, 0, none⟩ (by simp)).trans q0
  obtain ⟨W1, hW1⟩ : ∃ W1, (w.alloc (.cells #[.slice al l.length cl] 31)).alloc (.cells #[.slice none 0 0, .map none] 46) = W1 := ⟨_, rfl⟩
  have hz1' : W1.heap.size = w.heap.size + 2 := by rw [← hW1]; simp
  rw [hW1] at hB1 hv q1 q2
  have HW1 := Hid.mk' hW1
  have HB1 := Hid.mk' hB1
  have HZ1 := Hid.mk' hz1'
  have HG := Hid.mk' hg
  have htop : topN all ≤ 7 := topN_upto hg.short
  obtain ⟨T, hT⟩ : ∃ T, topN all = T := ⟨_, rfl⟩
  have HT := Hid.mk' hT
  rw [hT] at hv htop
  clear hE hl hll hle hg hW1 hB1 hz1' q0 hT
  go_enter Tryz.func17, Tryz.ntmps17
  go_upto_region 1 with fail
  rw [HW1.out]
  go_wp2_with fail
  refine hv.mono ?_
  clear hv
  rintro e W2 ⟨⟨b4, c4, rfl⟩, hB2⟩
  have HX : Hid (OpFix w all (.slice al l.length cl) (w.heap.size + 1) W2.heap.size (W2.heap.size + 1) 0 (.slice none 0 0) ((W2.alloc (.map #[] 0)).alloc (.cells #[.slice none 0 0, .map (some W2.heap.size)] 46)) ∧ NumAt ((W2.alloc (.map #[] 0)).alloc (.cells #[.slice none 0 0, .map (some W2.heap.size)] 46)) W2.heap.size all []) := by
    have hs2 := hB2.size
    have hz := HZ1.out
    have hk : ∀ p : Addr, p.block < W1.heap.size → ((W2.alloc (.map #[] 0)).alloc (.cells #[.slice none 0 0, .map (some W2.heap.size)] 46)).cell? p = W1.cell? p := fun p hp => by
      rw [World.cell?_alloc_lt _ _ p (by simp; omega), World.cell?_alloc_lt _ _ p (by omega)]
      exact hB2.cell hp
    have hkz : ∀ p : Addr, p.block < W1.heap.size → ((W2.alloc (.map #[] 0)).alloc (.cells #[.slice none 0 0, .map (some W2.heap.size)] 46)).frozen? p = W1.frozen? p := fun p hp => by
      have h1 : Below W1.heap.size W1 ((W2.alloc (.map #[] 0)).alloc (.cells #[.slice none 0 0, .map (some W2.heap.size)] 46)) := (hB2.alloc hB2.size _).alloc (by simp; omega) _
      exact h1.frozen hp
    have h5 := cells_two (W2.alloc (.map #[] 0)) (.slice none 0 0) (.map (some W2.heap.size)) 46
    rw [World.size_alloc] at h5
    refine ⟨⟨(hk ⟨w.heap.size, 0, none⟩ (by show w.heap.size < _; omega)).trans q2, (hk ⟨w.heap.size + 1, 0, none⟩ (by show w.heap.size + 1 < _; omega)).trans q1.1.1, (hk ⟨w.heap.size + 1, 1, none⟩ (by show w.heap.size + 1 < _; omega)).trans q1.1.2, fun o => (hkz ⟨w.heap.size + 1, o, none⟩ (by show w.heap.size + 1 < _; omega)).trans (q1.2 o), h5.1.1, h5.1.2, h5.2, OwnTexts.nil _ _, ?_, ?_⟩, ?_⟩
    · exact ((HB1.out.trans (hB2.mono HB1.out.size)).alloc (by omega) _).alloc (by simp; omega) _
    · simp; omega
    · exact ⟨_, (World.ownsMap_made W2 Tryz.prog 9 _).alloc _, fun x hx => by cases hx⟩
  obtain ⟨P, hP⟩ : ∃ P, w.heap.size + 1 = P := ⟨_, rfl⟩
  obtain ⟨g, hgg⟩ : ∃ g, W2.heap.size = g := ⟨_, rfl⟩
  have HPP := Hid.mk' hP
  rw [hP, hgg] at HX
  rw [hP]
  have HGG := Hid.mk' hgg
  have hmm : ∀ V : World, (Instr.makeMap 44 none).run Tryz.prog V = .ok (.map (some V.heap.size)) (V.alloc (.map #[] 0)) := fun V => by kernel_rfl
  clear hP hgg q1 q2
  go_upto_region 5 with fail
  rw [HGG.out]
  obtain ⟨X, hX⟩ : ∃ X, (W2.alloc (.map #[] 0)).alloc (.cells #[.slice none 0 0, .map (some g)] 46) = X := ⟨_, rfl⟩
  obtain ⟨Q, hQ⟩ : ∃ Q, g + 1 = Q := ⟨_, rfl⟩
  rw [hX, hQ] at HX
  rw [hX, hQ]
  clear hX hQ hmm
  go_wp2_with fail
  go_loopw [27] (fun p W => ∃ (K : Nat) (vF : Value), K ≤ T ∧ p = .int .i64 (K : Int) ∧ Hid (OpFix w all (.slice al l.length cl) P g Q K vF W ∧ NumAt W g all (upToD all K))) (fun p _ => T - (intOf p).toNat)
  case atStart => exact ⟨0, _, by omega, rfl, HX.out.1, HX.out.2⟩
  case round =>
    obtain ⟨K, vF, hK, rfl, HR⟩ := hrel
    clear HX hB2
    by_cases hlt : K < T
    · have hfa := HF.out (K : Int) wr HR.out.1.below
      have b0 := HR.out.1.box
      go_wp2_with fail
      refine hfa.mono ?_
      clear hfa
      rintro e V ⟨v8, rfl, hv8, hV⟩
      have HV : Hid (OpFix w all (.slice al l.length cl) P g Q K vF V ∧ NumAt V g all (upToD all K)) := ⟨HR.out.1.later hV, HR.out.2.below hV⟩
      have hgw : g < wr.heap.size := by have := HR.out.1.ord; omega
      obtain ⟨U, hU⟩ : ∃ U, wr.heap.size = U := ⟨_, rfl⟩
      have hUV : U ≤ V.heap.size := by rw [← hU]; exact hV.size
      rw [hU] at hv8 hgw
      clear hU hV
      obtain ⟨a8, c8, rfl, -, hx8⟩ := hv8.open_
      have H8 := Hid.mk' hx8
      have HRW := Hid.mk' hv8
      obtain ⟨m, hm⟩ : ∃ m, (ofDim all (K : Int)).length = m := ⟨_, rfl⟩
      have HM := Hid.mk' hm
      have hm6 : m ≤ 600 := by have := ofDim_length all (K : Int); have := HG.out.length; omega
      rw [hm] at hx8 ⊢
      have HGW : Hid (g < U ∧ U ≤ V.heap.size) := ⟨hgw, hUV⟩
      clear hv8 hx8 hm b0 hgw hUV
      obtain ⟨Z, hZ⟩ : ∃ Z, V.heap.size = Z := ⟨_, rfl⟩
      have HZ := Hid.mk' hZ
      clear hZ
      go_wp2_with fail
      go_loopw [42, 10] (fun p v W => ∃ (j : Nat), j ≤ m ∧ p = .int .i64 (j : Int) ∧ Hid (W.ownsRow V.heap.size 9 1 v j ((((ofDim all (K : Int)).take j).map txt).map encStr) ∧ NumAt W g all (upToD all K ++ (ofDim all (K : Int)).take j) ∧ V.grownBy W (some g))) (fun p _ _ => m - (intOf p).toNat)
      case atStart => exact ⟨0, by omega, rfl, World.ownsRow_nil _ _ _ _, by simpa using HV.out.2, World.grownBy.refl _ _⟩
      case round =>
        obtain ⟨j, hj, rfl, HJ⟩ := hrel
        obtain ⟨a3, c3, rfl⟩ := own_form HJ.out.1
        by_cases hjm : j < m
        · have hjf : j < (ofDim all (K : Int)).length := by rw [HM.out]; exact hjm
          obtain ⟨b, o, rfl, hub, hbl, hcs⟩ := H8.out (by rw [HM.out]; omega)
          obtain ⟨a', c', g1, hin⟩ := hcs j hjf
          obtain ⟨x, hx⟩ : ∃ x, (ofDim all (K : Int))[j]?.getD [] = x := ⟨_, rfl⟩
          have hxm : x ∈ ofDim all (K : Int) := by rw [← hx, List.getElem?_eq_getElem hjf]; exact List.getElem_mem hjf
          rw [hx] at g1 hin
          have g2 : wr.cell? ⟨b, o + j, none⟩ = some (.slice a' x.length c') := HJ.out.2.2.cell g1 (by simp; have := HGW.out.1; omega)
          have hin2 : Ints wr (.slice a' x.length c') x := (SliceIn.keep hin (fun b' hb' hs => HJ.out.2.2.block b' hb' (fun e => by cases e; have := HGW.out.1; omega))).mono (fun _ _ _ => trivial)
          have h99 := face_bytes HG.out (mem_ofDim hxm).1
          have htx := textOf_ (.slice a' x.length c') x wr hin2 (by have := HG.out.short x (mem_ofDim hxm).1; omega) h99
          obtain ⟨sx, hsx⟩ : ∃ sx : ByteArray, encStr (txt x) = .string sx := ⟨_, rfl⟩
          have hkey := key_of (txt x) (by rw [txt_len]; have := HG.out.short x (mem_ofDim hxm).1; unfold maxLen; omega)
          rw [hsx] at htx hkey
          have HXS : Hid ((ofDim all (K : Int))[j]?.getD [] = x ∧ encStr (txt x) = .string sx ∧ (∀ v ∈ x, 0 ≤ v ∧ v ≤ 99) ∧ idxF all x = j) := ⟨hx, hsx, h99, by rw [← hx]; exact idxF_at HG.out hjf⟩
          have hwf : (Lit.int .i64 (j : Int)).wf = true := wfN (by omega) (by omega)
          have HST1 := Hid.mk' HJ.out.2.2
          obtain ⟨xl, hxl⟩ : ∃ xl, x.length = xl := ⟨_, rfl⟩
          rw [hxl] at g2 htx
          clear hcs hbl hub g1 hin hin2 hx hxm h99 hsx hxl
          go_upto_region 16 with (first | (go_at_call 34; refine htx.mono ?_; rintro e V5 ⟨rfl, hB5⟩) | fail)
          have hO5 : V5.ownsRow V.heap.size 9 1 (.slice a3 j c3) j ((((ofDim all (K : Int)).take j).map txt).map encStr) := HJ.out.1.kept (Below.grownBy hB5) (by cases (Value.slice a3 j c3).ownBlock <;> simp)
          have HO5 := Hid.mk' hO5
          have HB5 := Hid.mk' hB5
          have HZ5 : Hid (V.heap.size ≤ V5.heap.size) := Nat.le_trans HJ.out.2.2.size hB5.size
          clear hB5 hO5 htx
          go_upto_region 17 with (first
            | (at_builtin; refine wpList_append_slice rfl (.tmp 49) (.tmp 51) 73 rfl V.heap.size 9 i0 (.string ⟨#[]⟩) 16 Tryz.underlying73 hi hz0 hz1 hz2 rfl _ _ _ rfl (HO5.out.alloc _) _ [.string sx] rfl (slice_one _ _ _) (by simp [Value.oneCell']) (by simp; omega) (by unfold maxLen; simp; omega) (by have := HZ5.out; simp; omega) ?_; intro v6 w6 hown6 hg6 hl6)
            | fail)
          obtain ⟨a6, c6, rfl⟩ := own_form hown6
          have hZV : g < V.heap.size := by have := HGW.out; omega
          have HG6 : Hid (V.grownBy w6 (some g)) := ((HJ.out.2.2.andThen (Below.grownBy HB5.out) (fun k hk => by cases hk)).andThen (World.grownBy_alloc V5 _ none) (fun k hk => by cases hk)).andThen hg6 (fun k hk => .inl (HO5.out.lt k hk).1)
          have HN6 : Hid (NumAt w6 g all (upToD all K ++ (ofDim all (K : Int)).take j)) := ((HJ.out.2.1.below HB5.out).kept (World.grownBy_alloc V5 _ none) (by simp)).kept hg6 (fun e => by have := (HO5.out.lt g e.symm).1; omega)
          have HO6 : Hid (w6.ownsRow V.heap.size 9 1 (.slice a6 (j + 1) c6) (j + 1) ((((ofDim all (K : Int)).take (j + 1)).map txt).map encStr)) := by
            show w6.ownsRow V.heap.size 9 1 (.slice a6 (j + 1) c6) (j + 1) ((((ofDim all (K : Int)).take (j + 1)).map txt).map encStr)
            rw [txtEnc_take hjf, HXS.out.1, HXS.out.2.1]
            exact hown6
          have s1 := (HV.out.1.kept HG6.out).st1
          obtain ⟨D, d1, d2⟩ := HN6.out
          have HD2 := Hid.mk' d2
          have htidy := d1.tidy law_string
          have hlen : (upToD all K ++ (ofDim all (K : Int)).take j).length ≤ 100000 := by
            rw [List.length_append, List.length_take]
            have h1 := upToD_len all K
            have h2 : K * all.length ≤ 7 * 600 := Nat.mul_le_mul (by omega) HG.out.length
            omega
          obtain ⟨N, hN⟩ : ∃ N, (upToD all K ++ (ofDim all (K : Int)).take j).length = N := ⟨_, rfl⟩
          have HNN := Hid.mk' hN
          rw [hN] at d1 hlen
          clear hown6 hg6 hl6 d2 hN HN6
          go_wp2_with (first
            | (at_mapUpdate; refine wpList_mapUpdate_own _ rfl _ _ _ 44 rfl 9 3 law_string Tryz.underlying44 _ g _ _ rfl d1 (by unfold maxLen; omega) _ _ _ rfl rfl hkey _ [] (plainElem_int Tryz.underlying3 hwf) ?_; intro w7 hown7 hg7)
            | fail)
          go_roundw
          case rel =>
            refine ⟨j + 1, by omega, by go_num, HO6.out.kept hg7 (.inr (fun e => by have := (HO6.out.lt g e).1; omega)), ?_, HG6.out.trans hg7⟩
            rw [take_face hjf, HXS.out.1, ← List.append_assoc]
            refine NumAt.push htidy (fun y hy => ?_) HXS.out.2.2.1 HD2.out (by rw [HXS.out.2.2.2]; exact hown7) (by rw [HNN.out])
            rcases List.mem_append.1 hy with h | h
            · exact face_bytes HG.out (upToD_mem.1 h).1
            · exact face_bytes HG.out (mem_ofDim (List.mem_of_mem_take h)).1
          case measure => simp [intOf]; omega
        · have hje : j = m := by omega
          subst hje
          have HF2 : Hid (OpFix w all (.slice al l.length cl) P g Q K vF wr) := HV.out.1.kept HJ.out.2.2
          have HN2 : Hid (NumAt wr g all (upToD all (K + 1))) := by
            have := HJ.out.2.1
            rw [← HM.out, List.take_length] at this
            show NumAt wr g all (upToD all (K + 1))
            rw [upToD_succ]; exact this
          have HT2 : Hid (StrsIn (fun b => V.heap.size ≤ b) wr (.slice a3 j c3) ((ofDim all (K : Int)).map txt)) := by
            have := slice_of_owns (S := fun b => V.heap.size ≤ b) HJ.out.1 (fun b hb _ => hb)
            rw [← HM.out, List.take_length] at this
            rw [HM.out] at this
            exact this
          have t0 := HF2.out.st0
          have z0 := HF2.out.stz 0
          obtain ⟨vs, h1, h2⟩ := HF2.out.rows
          have hKl : ((facesT all).take K).length = K := by simp [facesT]; have := HT.out; omega
          have H12 := Hid.mk' (And.intro h1 h2)
          rw [hKl] at h1
          obtain ⟨a9, c9, rfl⟩ := own_form h1
          have hvl : Hid (V.heap.size ≤ wr.heap.size) := HJ.out.2.2.size
          have hQ9 : Q + 1 ≤ wr.heap.size := by have := HF2.out.ord; omega
          clear h2
          go_wp2_with (first
            | (at_builtin; refine wpList_append_slice rfl (.tmp 59) (.tmp 61) 43 rfl (Q + 1) 73 i1 (.slice none 0 0) 24 Tryz.underlying43 hi1 hy0 hy1 hy2 rfl _ _ _ rfl (h1.alloc _) _ [.slice a3 j c3] rfl (slice_one _ _ _) (by simp [Value.oneCell']) (by simp; omega) (by unfold maxLen; simp; omega) (by simp; omega) ?_; intro v6 w6 hown6 hg6 hl6; obtain ⟨a6, c6, rfl⟩ := own_form hown6; have t6 : w6.cell? ⟨Q, 0, none⟩ = some (.slice a9 K c9) := hg6.cell ((World.cell?_alloc_lt _ _ ⟨Q, 0, none⟩ (by show Q < _; omega)).trans t0) (fun e => by have := (h1.lt Q e.symm).1; omega); have z6 : w6.frozen? ⟨Q, 0, none⟩ = false := (hg6.frozen_far ⟨Q, 0, none⟩ (by show Q < _; simp; omega) (fun e => by have := (h1.lt Q e.symm).1; omega)).trans ((((Below.refl _ wr).alloc (Nat.le_refl _) _).frozen (p := ⟨Q, 0, none⟩) (by show Q < _; omega)).trans z0))
            | fail)
          go_roundw
          case rel =>
            have hmore := HF2.out.more (by rw [HT.out]; exact hlt) H12.out.1 H12.out.2 (SliceIn.mono HT2.out (fun b hb hs => ⟨by have := HV.out.1.ord; omega, fun e => by
              have := (HV.out.1.rows.block e.symm).2
              omega⟩)) (by rw [hKl]; exact hown6) hg6 hl6
            refine ⟨K + 1, _, by omega, by go_num, hmore, ?_⟩
            have hgQ := HF2.out.ord
            exact ((HN2.out.kept (World.grownBy_alloc wr _ none) (by simp)).kept hg6 (fun e => by have := (h1.lt g e.symm).1; omega)).kept (grown_word w6 ⟨Q, 0, none⟩ _) (by simp; omega)
          case measure => simp [intOf]; omega
    · have hKT : K = T := by omega
      subst hKT
      have t0 := HR.out.1.st0
      have t1 := HR.out.1.st1
      have r0 := HR.out.1.res0
      have r1 := HR.out.1.res1
      have y0 := HR.out.1.resz 0
      have y1 := HR.out.1.resz 1
      have HMM : Hid (∀ x ∈ all, x ∈ upToD all K) := fun x hx => by
        have h1 := topN_le hx
        have h2 := List.length_pos_iff.2 (face_ok_of HG.out hx).1.1
        rw [HT.out] at h1
        exact upToD_mem.2 ⟨hx, x.length - 1, by omega, by omega⟩
      obtain ⟨aF, cF, rfl⟩ : ∃ a c, vF = .slice a K c := by
        obtain ⟨vs, h1, -⟩ := HR.out.1.rows
        have hKl : ((facesT all).take K).length = K := by simp [facesT]; have := HT.out; omega
        rw [hKl] at h1
        exact own_form h1
      go_wp2_with fail
      refine bodyPost_ret (v := .tuple #[.agg #[.slice aF K cF, .map (some g)], .nilIface]) ?_ rfl ?_
      · have c2 := two_set r0 r1 (.slice aF K cF) (.map (some g))
        simp [results, Tryz.f17, go_sem, c2.1, c2.2]
      · have ho := HR.out.1.ord
        have g0 := grown_word wr ⟨P, 0, none⟩ (.slice aF K cF)
        have g1 := grown_word (wr.setCell ⟨P, 0, none⟩ (.slice aF K cF)) ⟨P, 1, none⟩ (.map (some g))
        refine ⟨_, rfl, ⟨_, g, _, rfl, ?_, HMM.out, (HR.out.2.kept g0 (by simp; omega)).kept g1 (by simp; omega), by show w.heap.size ≤ g; omega⟩, below_cells2 HR.out.1.below (by omega) _ _⟩
        have h := ((HR.out.1.rows.kept g0 (by show P < Q + 1; omega)).kept g1 (by show P < Q + 1; omega)).rowsIn
        rw [show (facesT all).take K = facesT all from List.take_of_length_le (by simp [facesT]; rw [HT.out]; exact Nat.le_refl _)] at h
        exact h.mono (fun b _ hb => by show w.heap.size ≤ b; omega)

theorem cupOpen_good {a : Nat → Addr} {s : Nat → ByteArray} {l all : List (List Int)} (hg : Good l all) (vl : Value) (w : World) (hE : Errs a s w) (hl : Rows w vl l) (hll : l.length ≤ 100000) (hle : ∀ x ∈ l, x.length ≤ 1000) :
    Calls Tryz.prog 17 #[.agg #[vl]] w fun e w' => ∃ v, e = .returned (.tuple #[v, .nilIface]) ∧ ShapeAt w' v all ∧ Below w.heap.size w w' := (cupOpen_own hg vl w hE hl hll hle).mono fun e w' h => by
  obtain ⟨v, h1, h2, h3⟩ := h
  exact ⟨v, h1, h2.at, h3⟩

end Go.Proofs.YtldknhganoiajaaGreatDoor
