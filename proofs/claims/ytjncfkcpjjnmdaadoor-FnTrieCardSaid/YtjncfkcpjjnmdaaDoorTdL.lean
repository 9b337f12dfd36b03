/- The law of tries. -/
import Derived.Test.YtjncfkcpjjnmdaaDoorTdP
import Derived.Test.YtjncfkcpjjnmdaaDoorTdE
import Derived.Test.YtjncfkcpjjnmdaaDoorPakT
import Derived.Test.YtjncfkcpjjnmdaaDoorGF
import Derived.Test.YtjncfkcpjjnmdaaDoorSpnF
namespace Go.Proofs.YtjncfkcpjjnmdaaDoor.Dr
open Go.RowKit
set_option linter.unusedVariables false
abbrev Tab (w : World) : Prop := Lib.TabBelow Tryd.prog w.heap.size w "internal/strconv.uint64pow10" .u64 Lib.pow10Tab
theorem Tab.on {w w' : World} (h : Tab w) (hb : Below w.heap.size w w') : Tab w' := fun w'' hb2 => h w'' (hb.trans (hb2.mono hb.size))
/-- The spans that were drawn and the trie in its box. -/
structure Tw (w wr : World) (g : Nat) (v vi vd : Value) (L : List Sp) (I D : List Int) : Prop where
  be : Below w.heap.size w wr
  sp : SpRow wr w.heap.size v L
  di : DatAt wr wr.heap.size vi I
  dd : DatAt wr wr.heap.size vd D
  bx : wr.heap[g]? = some (.cells #[vi, vd] 28 (0, 0))
theorem Tw.on {w wr w2 : World} {g : Nat} {v vi vd : Value} {L : List Sp} {I D : List Int} (h : Tw w wr g v vi vd L I D) (hb : Below wr.heap.size wr w2) : Tw w w2 g v vi vd L I D :=
  ⟨h.be.trans (hb.mono h.be.size), h.sp.below hb, h.di.below hb, h.dd.below hb, (hb.block g (Array.getElem?_eq_some_iff.1 h.bx).1).trans h.bx⟩
theorem Tw.cs {w wr : World} {g : Nat} {v vi vd : Value} {L : List Sp} {I D : List Int} (h : Tw w wr g v vi vd L I D) : wr.cell? ⟨g, 0, none⟩ = some vi ∧ wr.cell? ⟨g, 1, none⟩ = some vd := by
  have := h.bx
  constructor <;> simp [World.cell?, this]
theorem code_on {w w' : World} {a : Option Addr} {len : Nat} (h : CodeIn w a len) (hb : Below w.heap.size w w') : CodeIn w' a len := by
  rcases h with h | ⟨cb, off, rfl, hl, hc⟩
  · exact .inl h
  · exact .inr ⟨cb, off, rfl, Nat.lt_of_lt_of_le hl hb.size, fun i hi => by
      obtain ⟨z, e, hz⟩ := hc i hi
      exact ⟨z, (hb.cell (p := ⟨cb, off + i, none⟩) hl).trans e, hz⟩⟩
/-- What was read back, in its box. -/
structure Tu (wr : World) (g : Nat) (x y ui ud : Value) (I D : List Int) : Prop where
  bx : wr.heap[g]? = some (.cells #[x, y, ui, ud] 36 (0, 0))
  ui : IntsAt wr ui I
  ud : IntsAt wr ud D
theorem Tu.on {wr w2 : World} {g : Nat} {x y ui ud : Value} {I D : List Int} (h : Tu wr g x y ui ud I D) (hb : Below wr.heap.size wr w2) : Tu w2 g x y ui ud I D :=
  ⟨(hb.block g (Array.getElem?_eq_some_iff.1 h.bx).1).trans h.bx, h.ui.below hb, h.ud.below hb⟩
theorem strE (t : List Int) (h : t = []) : (strOfNums t).size = 0 := by subst h; rfl
set_option maxHeartbeats 8000000 in
set_option maxRecDepth 100000 in
theorem lawTrie (a : Option Addr) (len cap : Nat) (a2 : Option Addr) (len2 cap2 : Nat) (w : World) (hc : CodeIn w a len) (hc2 : CodeIn w a2 len2) (hl0 : len ≤ maxLen) (hl02 : len2 ≤ maxLen) (hT : Tab w) :
    Calls Tryd.prog 3 #[.slice a len cap, .slice a2 len2 cap2] w fun e w' => e = .returned (.bool true) ∧ Below w.heap.size w w' := by
  unfold maxLen at hl0 hl02
  by_cases b1 : 1048576 < len
  · have hU : undef = Value.tuple #[] := rfl
    have b1' : (1048576 : Int) < (len : Int) := by omega
    go_enter Tryd.func3, Tryd.ntmps3
    go_wp2
    go_ret
    exact ⟨rfl, Below.refl _ _⟩
  · have b1' : ¬ (1048576 : Int) < (len : Int) := by omega
    by_cases b2 : 1048576 < len2
    · have b2' : (1048576 : Int) < (len2 : Int) := by omega
      go_enter Tryd.func3, Tryd.ntmps3
      go_wp2
      go_ret
      exact ⟨rfl, Below.refl _ _⟩
    · have b2' : ¬ (1048576 : Int) < (len2 : Int) := by omega
      have CD := hide (draw_any w a len cap (by omega) hc)
      have HC2 := hide hc2
      have HT := hide hT
      clear hc hc2 hT
      go_enter Tryd.func3, Tryd.ntmps3
      go_wp2_with fail
      refine (unhide CD).mono ?_
      rintro e w1 ⟨v, L, o, rfl, ho, hL, hV, hS, hb1⟩
      have SP := hide hS
      have HV := hide hV
      have B1 := hide hb1
      obtain ⟨va, vc, rfl, _⟩ := hS.form
      clear CD hS hV hb1
      cases hr : right L with
      | false =>
        have CB := hide (fun W h => implBuild_no (.slice va L.length vc) L (o : Int) w.heap.size W h hr (by omega))
        have CF := hide (fun W h => specFault (.slice va L.length vc) L w.heap.size W h (by omega))
        have hf : faultOf L = 1 := by unfold faultOf; rw [hr]; rfl
        rw [hf] at CF
        clear hf hr
        go_wp2_with fail
        refine ((unhide CB) _ (unhide SP)).mono ?_
        rintro e w2 ⟨rfl, hb2⟩
        have SP2 := hide ((unhide SP).below hb2)
        have B2 := hide ((unhide B1).trans (hb2.mono (unhide B1).size))
        clear hb2 SP B1 CB
        have SP3 := hide ((unhide SP2).below ((Below.refl w2.heap.size w2).alloc (Nat.le_refl _) (.cells #[.slice none 0 0, .slice none 0 0] 28)))
        have B3 := hide ((unhide B2).alloc (unhide B2).size (.cells #[.slice none 0 0, .slice none 0 0] 28))
        have X3 := heap_last w2 (.cells #[.slice none 0 0, .slice none 0 0] 28)
        have s3 : w2.heap.size < (w2.alloc (.cells #[.slice none 0 0, .slice none 0 0] 28)).heap.size := by simp
        go_wp2_with fail
        generalize w2.alloc (.cells #[.slice none 0 0, .slice none 0 0] 28) = w3 at *
        refine ((unhide CF) _ (unhide SP3)).mono ?_
        rintro e w4 ⟨rfl, hb4⟩
        have X4 := (hb4.block w2.heap.size s3).trans X3
        have B4 := hide ((unhide B3).trans (hb4.mono (unhide B3).size))
        obtain ⟨c0, c1⟩ : w4.cell? ⟨w2.heap.size, 0, none⟩ = some (.slice none 0 0) ∧ w4.cell? ⟨w2.heap.size, 1, none⟩ = some (.slice none 0 0) := by constructor <;> simp [World.cell?, X4]
        clear hb4 X3 X4 B3 SP3 CF SP2 B2
        go_wp2
        go_ret
        exact ⟨rfl, unhide B4⟩
      | true =>
        have CB := hide (fun W h => implBuild (.slice va L.length vc) L (o : Int) w.heap.size W h hr (by omega))
        have CF := hide (fun W h => specFault (.slice va L.length vc) L w.heap.size W h (by omega))
        have CS := hide (fun W h => specBuild (.slice va L.length vc) L (o : Int) w.heap.size W h hr (by omega))
        have hf : faultOf L = 0 := by unfold faultOf; rw [hr]; rfl
        rw [hf] at CF
        have FA := hide (d_fault L (o : Int))
        have FT := hide (fun p hp => d_tells L (o : Int) p hp)
        have FI := hide (dI_small L (o : Int))
        have FD := hide (fun j hj => dD_small (L := L) (o := (o : Int)) (unhide HV) (by omega) j hj)
        have LI := hide (dI_len L (o : Int))
        have LD := hide (dD_le L (o : Int))
        have LP := hide (dD_pos L (o : Int))
        clear hf hr
        go_wp2_with fail
        refine ((unhide CB) _ (unhide SP)).mono ?_
        rintro e w2 ⟨vi, vd, rfl, hi, hd, hb2, _⟩
        have DI : Hid (DatAt w2 w2.heap.size vi (dI L (o : Int))) := hide (DatAt.owned hi)
        have DD : Hid (DatAt w2 w2.heap.size vd (dD L (o : Int))) := hide (DatAt.owned hd)
        have CS2 : Hid (∀ W, SpRow W w.heap.size (.slice va L.length vc) L → Calls Tryd.prog 15 #[.slice va L.length vc, .int .i64 (o : Int)] W fun e w' => ∃ vi vd, e = .returned (.agg #[vi, vd]) ∧ DatAt w' w'.heap.size vi (dI L (o : Int)) ∧ DatAt w' w'.heap.size vd (dD L (o : Int)) ∧ Below W.heap.size W w') := hide (fun W h => ((unhide CS) W h).mono (fun e w' ⟨x, y, he, h1, h2, h3⟩ => ⟨x, y, he, DatAt.owned h1, DatAt.owned h2, h3⟩))
        have SP2 := hide ((unhide SP).below hb2)
        have B2 := hide ((unhide B1).trans (hb2.mono (unhide B1).size))
        clear hb2 SP B1 CB hi hd CS
        generalize dI L (o : Int) = I at *
        generalize dD L (o : Int) = D at *
        obtain ⟨ia, ic, rfl, _⟩ := unhide DI
        obtain ⟨da, dc, rfl, _⟩ := unhide DD
        have AB := (Below.refl w2.heap.size w2).alloc (Nat.le_refl _) (.cells #[.slice ia I.length ic, .slice da D.length dc] 28)
        have T3 : Hid (Tw w (w2.alloc (.cells #[.slice ia I.length ic, .slice da D.length dc] 28)) w2.heap.size (.slice va L.length vc) (.slice ia I.length ic) (.slice da D.length dc) L I D) := hide ⟨(unhide B2).alloc (unhide B2).size _, (unhide SP2).below AB, (unhide DI).below AB, (unhide DD).below AB, heap_last w2 _⟩
        clear AB
        go_wp2_with fail
        generalize w2.alloc (.cells #[.slice ia I.length ic, .slice da D.length dc] 28) = w3 at *
        generalize w2.heap.size = g at *
        refine ((unhide CF) _ (unhide T3).sp).mono ?_
        rintro e w4 ⟨rfl, hb4⟩
        have T4 := hide ((unhide T3).on hb4)
        have C40 := hide (lwAt_any a2 len2 cap2 0 w4 (code_on (unhide HC2) (unhide T4).be) (by omega) (by omega))
        have C41 := hide (lwAt_any a2 len2 cap2 1 w4 (code_on (unhide HC2) (unhide T4).be) (by omega) (by omega))
        clear hb4 CF T3 SP2 B2 DI DD HC2
        go_wp2_with fail
        refine (unhide C40).mono ?_
        rintro e w5 ⟨z1, rfl, hz1, hz2, hw5⟩
        have e5 := hw5.symm
        subst e5
        clear hw5 C40
        go_wp2_with fail
        refine (unhide C41).mono ?_
        rintro e w5 ⟨z2, rfl, hz3, hz4, hw5⟩
        have e5 := hw5.symm
        subst e5
        clear hw5 C41
        obtain ⟨p, hp⟩ : ∃ p : Nat, z1 * 64 + z2 = (p : Int) := ⟨(z1 * 64 + z2).toNat, by omega⟩
        have hp2 : p < 32768 := by omega
        have hp' : ¬ (32767 : Int) < (p : Int) := by omega
        have hpw : IntKind.i64.wrap (z1 * 64) = z1 * 64 := by simp [IntKind.wrap, IntKind.bits, IntKind.signed]; omega
        have hFT := hide ((unhide FT) p hp2)
        clear FT
        go_wp2
        go_loopw [9, 10] (fun wv iv wr => ∃ i : Nat, iv = .int .i64 (i : Int) ∧ i ≤ L.length ∧ wv = .int .i64 (pvU L (o : Int) i (p : Int)) ∧ wr = w4) (fun _ iv _ => L.length - (intOf iv).toNat)
        case atStart => exact ⟨0, rfl, by omega, rfl, rfl⟩
        case round =>
          obtain ⟨i, rfl, hil, rfl, hwr⟩ := hrel
          subst hwr
          by_cases hlt : i < L.length
          · obtain ⟨xa, xc, he, hg⟩ := (unhide T4).sp.form
            injection he with he1 _ he2
            subst he1
            clear he2
            obtain ⟨gv, rfl, _, _⟩ := hg (by omega)
            obtain ⟨k0, k1, k2⟩ := (unhide T4).sp.read i hlt
            have HI := hide (fun h => pvU_in (L := L) (o := (o : Int)) (k := i) (p := (p : Int)) h)
            have HO := hide (fun h => pvU_out (L := L) (o := (o : Int)) (k := i) (p := (p : Int)) h)
            generalize pvU L (o : Int) i (p : Int) = y at *
            generalize gx L i = q at *
            obtain ⟨q0, q1, q2⟩ := q
            clear hg
            by_cases c0 : q0 ≤ (p : Int)
            · by_cases c1 : (p : Int) ≤ q1
              · have HY := hide ((unhide HI) ⟨c0, c1⟩)
                clear HI HO
                go_wp2
                go_roundw
                case rel => exact ⟨i + 1, by go_num, by omega, by rw [unhide HY], by first | exact rfl | trivial⟩
                case measure => simp [intOf]; omega
              · have HY := hide ((unhide HO) (fun h => c1 h.2))
                clear HI HO
                go_wp2
                go_roundw
                case rel => exact ⟨i + 1, by go_num, by omega, by rw [unhide HY], by first | exact rfl | trivial⟩
                case measure => simp [intOf]; omega
            · have HY := hide ((unhide HO) (fun h => c0 h.1))
              have hU : undef = Value.tuple #[] := rfl
              clear HI HO
              go_wp2
              go_roundw
              case rel => exact ⟨i + 1, by go_num, by omega, by rw [unhide HY], by first | exact rfl | trivial⟩
              case measure => simp [intOf]; omega
          · obtain rfl : i = L.length := by omega
            rw [← unhide hFT]
            have li : I.length ≤ 1048576 := by have := unhide LI; omega
            have ld : D.length ≤ 1048576 := by have := unhide LD; omega
            have xi := in64 (unhide FI)
            have xd := in64 (unhide FD)
            have C1 := hide (fun W (h : Tw w W g (.slice va L.length vc) (.slice ia I.length ic) (.slice da D.length dc) L I D) => implTS (.slice ia I.length ic) (.slice da D.length dc) I D W h.di h.dd li ld)
            have C2 := hide (fun W (h : Tw w W g (.slice va L.length vc) (.slice ia I.length ic) (.slice da D.length dc) L I D) => implPack (.slice ia I.length ic) (.slice da D.length dc) I D W h.di h.dd li ld xi xd ((unhide HT).on h.be))
            have C3 := hide (fun W (h : Tw w W g (.slice va L.length vc) (.slice ia I.length ic) (.slice da D.length dc) L I D) => implTF (.slice ia I.length ic) (.slice da D.length dc) I D W h.di h.dd li ld)
            have C4 := hide (fun W (h : Tw w W g (.slice va L.length vc) (.slice ia I.length ic) (.slice da D.length dc) L I D) => implTA (.slice ia I.length ic) (.slice da D.length dc) I D (p : Int) W h.di h.dd li ld)
            have C5 := hide (fun W (h : Tw w W g (.slice va L.length vc) (.slice ia I.length ic) (.slice da D.length dc) L I D) => (unhide CS2) W h.sp)
            have C6 := hide (fun x y W h1 h2 => specTS x y I D W h1 h2 li ld)
            have C7 := hide (fun v1 v2 M B1 B2 W h1 h2 hm => lwSpans v1 v2 M B1 B2 W h1 h2 hm)
            have C8 := hide (fun x y W h1 h2 => specPack x y I D W h1 h2 li ld xi xd)
            have C9 := hide (fun v1 v2 W h1 h2 => lwSame v1 v2 I W h1 h2 li)
            have C10 := hide (fun v1 v2 W h1 h2 => lwSame v1 v2 D W h1 h2 ld)
            rw [unhide FA] at C3
            have PO : Hid (pakOut I D = smallP (pkRuns I ++ [59] ++ pkRuns D)) := hide (by unfold pakOut; rw [if_pos (unhide FA)])
            have CA := hide (fun W hT => again_any W I D hT (by have := unhide LI; omega) (by have := unhide LI; omega) (unhide LP) (unhide LD) (unhide FI) (unhide FD) (unhide FA))
            clear xi xd CS2 HT FI FD LP hFT
            generalize tellsAt I D (p : Int) = y at *
            have hyy : (y == y) = true := by simp
            obtain ⟨c0, c1⟩ := (unhide T4).cs
            go_wp2_with fail
            refine ((unhide C1) _ (unhide T4)).mono ?_
            rintro e w5 ⟨v1, M, rfl, hM, hMl, hMs, hb5⟩
            have HM := hide hM
            have MS := hide hMs
            obtain ⟨ma, mc, rfl, _⟩ := hMs.form
            have T5 := hide ((unhide T4).on hb5)
            clear c0 c1 hM hMs hb5 C1 T4
            obtain ⟨c0, c1⟩ := (unhide T5).cs
            go_wp2_with fail
            refine ((unhide C2) _ (unhide T5)).mono ?_
            rintro e w6 ⟨rfl, hb6⟩
            have T6 := hide ((unhide T5).on hb6)
            have MS6 := hide ((unhide MS).below hb6)
            clear c0 c1 hb6 C2 T5 MS
            by_cases hbig : 65536 < (pkRuns I ++ [59] ++ pkRuns D).length
            · have HE : Hid (pakOut I D = []) := hide (by rw [unhide PO]; unfold smallP; rw [if_pos hbig])
              have CU := hide (fun W => unpack_end W (strOfNums (pakOut I D)) (strE _ (unhide HE)))
              have SE : Hid (strOfNums (pakOut I D) = ⟨#[]⟩) := hide (by rw [unhide HE]; rfl)
              clear CA PO hbig
              generalize strOfNums (pakOut I D) = X at *
              go_wp2_with fail
              refine ((unhide CU) _).mono ?_
              rintro e w7 ⟨rfl, hb7⟩
              have T7 := hide ((unhide T6).on hb7)
              have MS7 := hide ((unhide MS6).below hb7)
              clear hb7 CU T6 MS6
              have AB := (Below.refl w7.heap.size w7).alloc (Nat.le_refl _) (.cells #[.int .i64 3, .int .i64 0, .slice none 0 0, .slice none 0 0] 36)
              have T8 := hide ((unhide T7).on AB)
              have MS8 := hide ((unhide MS7).below AB)
              clear AB T7 MS7
              obtain ⟨c0, c1⟩ := (unhide T8).cs
              have hX : X = ⟨#[]⟩ := unhide SE
              subst hX
              clear SE
              go_wp2_with fail
              generalize w7.alloc (.cells #[.int .i64 3, .int .i64 0, .slice none 0 0, .slice none 0 0] 36) = w8 at *
              refine ((unhide C3) _ (unhide T8)).mono ?_
              rintro e w9 ⟨rfl, hb⟩
              have T9 := hide ((unhide T8).on hb)
              have MS9 := hide ((unhide MS8).below hb)
              clear c0 c1 hb T8 MS8
              obtain ⟨c0, c1⟩ := (unhide T9).cs
              go_wp2_with fail
              refine ((unhide C4) _ (unhide T9)).mono ?_
              rintro e w10 ⟨rfl, hb⟩
              have T10 := hide ((unhide T9).on hb)
              have MS10 := hide ((unhide MS9).below hb)
              clear c0 c1 hb T9 MS9
              obtain ⟨c0, c1⟩ := (unhide T10).cs
              go_wp2_with fail
              refine ((unhide C5) _ (unhide T10)).mono ?_
              rintro e w11 ⟨x, z, rfl, hx, hz, hb⟩
              have T11 := hide ((unhide T10).on hb)
              have MS11 := hide ((unhide MS10).below hb)
              have HX := hide hx
              have HZ := hide hz
              clear hx hz
              clear c0 c1 hb T10 MS10
              obtain ⟨c0, c1⟩ := (unhide T11).cs
              go_wp2_with fail
              refine ((unhide C6) _ _ _ (unhide HX) (unhide HZ)).mono ?_
              rintro e w12 ⟨v2, M2, rfl, hM2, hMl2, hMs2, hb⟩
              have T12 := hide ((unhide T11).on hb)
              have MS12 := hide ((unhide MS11).below hb)
              have e2 := ts_one hM2 (unhide HM)
              subst e2
              have HS2 := hide hMs2
              obtain ⟨na, nc, rfl, _⟩ := hMs2.form
              clear hM2 hMs2 HX HZ
              clear c0 c1 hb T11 MS11
              obtain ⟨c0, c1⟩ := (unhide T12).cs
              go_wp2_with fail
              refine ((unhide C7) _ _ _ _ _ _ (unhide MS12) (unhide HS2) (by omega)).mono ?_
              rintro e w13 ⟨rfl, hb⟩
              have T13 := hide ((unhide T12).on hb)
              have MS13 := hide ((unhide MS12).below hb)
              clear HS2
              clear c0 c1 hb T12 MS12
              obtain ⟨c0, c1⟩ := (unhide T13).cs
              go_wp2_with fail
              refine ((unhide C5) _ (unhide T13)).mono ?_
              rintro e w14 ⟨x2, z2, rfl, hx, hz, hb⟩
              have T14 := hide ((unhide T13).on hb)
              have MS14 := hide ((unhide MS13).below hb)
              have HX := hide hx
              have HZ := hide hz
              clear hx hz
              clear c0 c1 hb T13 MS13
              obtain ⟨c0, c1⟩ := (unhide T14).cs
              go_wp2_with fail
              refine ((unhide C8) _ _ _ (unhide HX) (unhide HZ)).mono ?_
              rintro e w15 ⟨rfl, hb⟩
              have T15 := hide ((unhide T14).on hb)
              have MS15 := hide ((unhide MS14).below hb)
              clear HX HZ
              clear c0 c1 hb T14 MS14
              obtain ⟨c0, c1⟩ := (unhide T15).cs
              go_wp2
              go_ret
              exact ⟨rfl, (unhide T15).be⟩
            · have HE : Hid (pakOut I D = pkRuns I ++ [59] ++ pkRuns D) := hide (by rw [unhide PO]; unfold smallP; rw [if_neg hbig])
              have CU : Hid (∀ W, Calls Tryd.prog 9 #[.string (strOfNums (pakOut I D))] W fun e w' => ∃ vi vd, e = .returned (.agg #[.int .i64 0, .int .i64 0, vi, vd]) ∧ IntsAt w' vi I ∧ IntsAt w' vd D ∧ Below W.heap.size W w') := hide (fun W => by rw [unhide HE]; exact (unhide CA) W (by omega))
              have SE : (strOfNums (pakOut I D)).size ≠ 0 := by rw [unhide HE, strOfNums_size]; simp
              clear CA PO hbig HE
              generalize strOfNums (pakOut I D) = X at *
              have hX1 : ¬ X.toList = [] := fun h => SE (by rw [Go.ByteArray.toList_eq] at h; show X.data.size = 0; rw [← Array.length_toList, h]; rfl)
              have hX2 : (X.toList == []) = false := by simpa using hX1
              have hX3 : X.toList.isEmpty = false := by simpa using hX1
              have hX4 : ¬ X = ⟨#[]⟩ := fun h => SE (by rw [h]; rfl)
              go_wp2_with fail
              refine ((unhide CU) _).mono ?_
              rintro e w7 ⟨ui, ud, rfl, hui, hud, hb7⟩
              have T7 := hide ((unhide T6).on hb7)
              have MS7 := hide ((unhide MS6).below hb7)
              have HUI := hide hui
              have HUD := hide hud
              obtain ⟨ua, uc, rfl, _⟩ := hui
              obtain ⟨xa, xc, rfl, _⟩ := hud
              clear hb7 CU T6 MS6
              have AB := (Below.refl w7.heap.size w7).alloc (Nat.le_refl _) (.cells #[.int .i64 0, .int .i64 0, .slice ua I.length uc, .slice xa D.length xc] 36)
              have T8 := hide ((unhide T7).on AB)
              have MS8 := hide ((unhide MS7).below AB)
              have U8 : Hid (Tu (w7.alloc (.cells #[.int .i64 0, .int .i64 0, .slice ua I.length uc, .slice xa D.length xc] 36)) w7.heap.size (.int .i64 0) (.int .i64 0) (.slice ua I.length uc) (.slice xa D.length xc) I D) := hide ⟨heap_last w7 _, (unhide HUI).below AB, (unhide HUD).below AB⟩
              clear AB T7 MS7 HUI HUD
              obtain ⟨c0, c1⟩ := (unhide T8).cs
              go_wp2_with fail
              generalize w7.alloc (.cells #[.int .i64 0, .int .i64 0, .slice ua I.length uc, .slice xa D.length xc] 36) = w8 at *
              generalize w7.heap.size = gu at *
              refine ((unhide C3) _ (unhide T8)).mono ?_
              rintro e w9 ⟨rfl, hb⟩
              have T9 := hide ((unhide T8).on hb)
              have MS9 := hide ((unhide MS8).below hb)
              have U9 := hide ((unhide U8).on hb)
              clear c0 c1 hb T8 MS8 U8
              obtain ⟨c0, c1⟩ := (unhide T9).cs
              go_wp2_with fail
              refine ((unhide C4) _ (unhide T9)).mono ?_
              rintro e w10 ⟨rfl, hb⟩
              have T10 := hide ((unhide T9).on hb)
              have MS10 := hide ((unhide MS9).below hb)
              have U10 := hide ((unhide U9).on hb)
              clear c0 c1 hb T9 MS9 U9
              obtain ⟨c0, c1⟩ := (unhide T10).cs
              go_wp2_with fail
              refine ((unhide C5) _ (unhide T10)).mono ?_
              rintro e w11 ⟨x, z, rfl, hx, hz, hb⟩
              have T11 := hide ((unhide T10).on hb)
              have MS11 := hide ((unhide MS10).below hb)
              have U11 := hide ((unhide U10).on hb)
              have HX := hide hx
              have HZ := hide hz
              clear hx hz
              clear c0 c1 hb T10 MS10 U10
              obtain ⟨c0, c1⟩ := (unhide T11).cs
              go_wp2_with fail
              refine ((unhide C6) _ _ _ (unhide HX) (unhide HZ)).mono ?_
              rintro e w12 ⟨v2, M2, rfl, hM2, hMl2, hMs2, hb⟩
              have T12 := hide ((unhide T11).on hb)
              have MS12 := hide ((unhide MS11).below hb)
              have U12 := hide ((unhide U11).on hb)
              have e2 := ts_one hM2 (unhide HM)
              subst e2
              have HS2 := hide hMs2
              obtain ⟨na, nc, rfl, _⟩ := hMs2.form
              clear hM2 hMs2 HX HZ
              clear c0 c1 hb T11 MS11 U11
              obtain ⟨c0, c1⟩ := (unhide T12).cs
              go_wp2_with fail
              refine ((unhide C7) _ _ _ _ _ _ (unhide MS12) (unhide HS2) (by omega)).mono ?_
              rintro e w13 ⟨rfl, hb⟩
              have T13 := hide ((unhide T12).on hb)
              have MS13 := hide ((unhide MS12).below hb)
              have U13 := hide ((unhide U12).on hb)
              clear HS2
              clear c0 c1 hb T12 MS12 U12
              obtain ⟨c0, c1⟩ := (unhide T13).cs
              go_wp2_with fail
              refine ((unhide C5) _ (unhide T13)).mono ?_
              rintro e w14 ⟨x2, z2, rfl, hx, hz, hb⟩
              have T14 := hide ((unhide T13).on hb)
              have MS14 := hide ((unhide MS13).below hb)
              have U14 := hide ((unhide U13).on hb)
              have HX := hide hx
              have HZ := hide hz
              clear hx hz
              clear c0 c1 hb T13 MS13 U13
              obtain ⟨c0, c1⟩ := (unhide T14).cs
              go_wp2_with fail
              refine ((unhide C8) _ _ _ (unhide HX) (unhide HZ)).mono ?_
              rintro e w15 ⟨rfl, hb⟩
              have T15 := hide ((unhide T14).on hb)
              have MS15 := hide ((unhide MS14).below hb)
              have U15 := hide ((unhide U14).on hb)
              clear HX HZ
              clear c0 c1 hb T14 MS14 U14
              obtain ⟨c0, c1⟩ := (unhide T15).cs
              obtain ⟨⟨d0, d1, d2, d3⟩, _⟩ := four_c (unhide U15).bx
              go_wp2_with fail
              refine ((unhide C9) _ _ _ (unhide U15).ui ((unhide T15).di.ints (Nat.le_refl _))).mono ?_
              rintro e w16 ⟨rfl, hb⟩
              have T16 := hide ((unhide T15).on hb)
              have U16 := hide ((unhide U15).on hb)
              clear c0 c1 d0 d1 d2 d3 hb T15 U15 MS15
              obtain ⟨c0, c1⟩ := (unhide T16).cs
              obtain ⟨⟨d0, d1, d2, d3⟩, _⟩ := four_c (unhide U16).bx
              go_wp2_with fail
              refine ((unhide C10) _ _ _ (unhide U16).ud ((unhide T16).dd.ints (Nat.le_refl _))).mono ?_
              rintro e w17 ⟨rfl, hb⟩
              have T17 := hide ((unhide T16).on hb)
              clear c0 c1 d0 d1 d2 d3 hb T16 U16
              go_wp2
              go_ret
              exact ⟨rfl, (unhide T17).be⟩
end Go.Proofs.YtjncfkcpjjnmdaaDoor.Dr
