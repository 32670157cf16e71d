import Derived.Test.YtcimmfhbffofjaaRcDf
namespace Go.Proofs.Ytcimmfhbffofjaa
open Wd U Go.ChangeShapes Go.WideShapes Go.RowKit Go.Sort
set_option linter.unusedVariables false
set_option linter.unusedSimpArgs false

/-! the region of the document's Of that lays the effect -/
def regNo (k : Nat) : Code → Option Code
  | .region id ops d => if id = k then some (.region id ops d) else none
  | .loop c => regNo k c
  | .seq a b => match regNo k a with
    | some c => some c
    | none => regNo k b
  | .block _ c => regNo k c
  | .scope c => regNo k c
  | .cond _ a b => match regNo k a with
    | some c => some c
    | none => regNo k b
  | _ => none
noncomputable def reg13 : Code := ((Try.f11.body.bind (regNo 13)).getD .skip)
set_option maxRecDepth 1000000 in
set_option maxHeartbeats 8000000 in
theorem reg13_wp {K : Act → World → Prop} {w w3 : World} {lq : List Nat} {B L c b off a1 a2 a3 a4 a5 a6 a7 : Nat} {s1 s2 : ByteArray} {l : List Nat} (u1 u2 u3 u4 u5 u6 u7 u9 u11 u12 u13 u14 u15 u16 u17 u18 u19 u20 u21 u22 u23 u24 u25 u26 u27 u28 u29 u30 u31 u32 u33 u34 u35 u36 u37 u38 u39 u40 u41 u42 u43 u44 u45 u46 u47 u48 u49 u50 u51 u52 u53 u54 u55 u56 u57 u58 u59 u60 u61 u62 u63 u64 u65 u66 u67 u68 u69 u70 u71 u72 u73 u74 u75 u76 u77 u78 u79 u80 u81 u82 u83 u84 u85 u86 u87 u88 u89 u90 u91 u92 u93 u94 u95 u96 u97 u98 u99 u100 u101 u102 u103 u104 u105 u106 u107 u108 u109 u110 u111 u112 u113 u114 : Value) (h8 : 8 ≤ L) (hB3 : B ≤ w3.heap.size) (hr : Row w3 B (some ⟨b, off, none⟩) L (l.map wd))
    (x1 : l[1]? = some a1) (x2 : l[2]? = some a2) (x3 : l[3]? = some a3) (x4 : l[4]? = some a4) (x5 : l[5]? = some a5) (x6 : l[6]? = some a6) (x7 : l[7]? = some a7)
    (y1 : a1 ≤ 1099511627776) (y2 : a2 ≤ 1099511627776) (y3 : a3 ≤ 1099511627776) (y4 : a4 ≤ 1099511627776) (y5 : a5 ≤ 1099511627776) (y6 : a6 ≤ 1099511627776)
    (h : ∀ (v48 v49 v50 v51 v52 v53 v54 v55 v56 v57 v58 v59 v60 v61 v62 v63 v64 v65 v66 v67 v68 v69 v70 v71 v72 v73 v74 : Value) (wx : World), Cells wx w3.heap.size 24 (effCells ⟨a1, a2, a3, a4, a5, a6, s1, s2, none, 0, []⟩) → Below w3.heap.size w3 wx → K ⟨List.toArray ((.slice (some ⟨b, off, none⟩) L c) :: (u1) :: (u2) :: (u3) :: (u4) :: (u5) :: (u6) :: (u7) :: (.string s1) :: (u9) :: (.string s2) :: (u11) :: (.pointer (some ⟨w3.heap.size, 0, none⟩)) :: (u13) :: (u14) :: (u15) :: (u16) :: (u17) :: (u18) :: (u19) :: (u20) :: (u21) :: (u22) :: (u23) :: (u24) :: (u25) :: (u26) :: (u27) :: (u28) :: (u29) :: (u30) :: (u31) :: (u32) :: (u33) :: (u34) :: (u35) :: (u36) :: (u37) :: (u38) :: (u39) :: (u40) :: (u41) :: (u42) :: (u43) :: (u44) :: (u45) :: (u46) :: (u47) :: (v48) :: (v49) :: (v50) :: (v51) :: (v52) :: (v53) :: (v54) :: (v55) :: (v56) :: (v57) :: (v58) :: (v59) :: (v60) :: (v61) :: (v62) :: (v63) :: (v64) :: (v65) :: (v66) :: (v67) :: (v68) :: (v69) :: (v70) :: (v71) :: (v72) :: (v73) :: (v74) :: (u75) :: (u76) :: (u77) :: (u78) :: (u79) :: (u80) :: (u81) :: (u82) :: (u83) :: (u84) :: (u85) :: (u86) :: (u87) :: (u88) :: (u89) :: (u90) :: (u91) :: (u92) :: (u93) :: (u94) :: (u95) :: (u96) :: (u97) :: (u98) :: (u99) :: (u100) :: (u101) :: (u102) :: (u103) :: (u104) :: (u105) :: (u106) :: (u107) :: (u108) :: (u109) :: (u110) :: (u111) :: (u112) :: (u113) :: (u114) :: []), []⟩ wx) :
    Code.wp Try.prog reg13 (Exit.then K (bodyPost Try.prog Try.f11 (OfR lq w))) ⟨List.toArray ((.slice (some ⟨b, off, none⟩) L c) :: (u1) :: (u2) :: (u3) :: (u4) :: (u5) :: (u6) :: (u7) :: (.string s1) :: (u9) :: (.string s2) :: (u11) :: (u12) :: (u13) :: (u14) :: (u15) :: (u16) :: (u17) :: (u18) :: (u19) :: (u20) :: (u21) :: (u22) :: (u23) :: (u24) :: (u25) :: (u26) :: (u27) :: (u28) :: (u29) :: (u30) :: (u31) :: (u32) :: (u33) :: (u34) :: (u35) :: (u36) :: (u37) :: (u38) :: (u39) :: (u40) :: (u41) :: (u42) :: (u43) :: (u44) :: (u45) :: (u46) :: (u47) :: (u48) :: (u49) :: (u50) :: (u51) :: (u52) :: (u53) :: (u54) :: (u55) :: (u56) :: (u57) :: (u58) :: (u59) :: (u60) :: (u61) :: (u62) :: (u63) :: (u64) :: (u65) :: (u66) :: (u67) :: (u68) :: (u69) :: (u70) :: (u71) :: (u72) :: (u73) :: (u74) :: (u75) :: (u76) :: (u77) :: (u78) :: (u79) :: (u80) :: (u81) :: (u82) :: (u83) :: (u84) :: (u85) :: (u86) :: (u87) :: (u88) :: (u89) :: (u90) :: (u91) :: (u92) :: (u93) :: (u94) :: (u95) :: (u96) :: (u97) :: (u98) :: (u99) :: (u100) :: (u101) :: (u102) :: (u103) :: (u104) :: (u105) :: (u106) :: (u107) :: (u108) :: (u109) :: (u110) :: (u111) :: (u112) :: (u113) :: (u114) :: []), []⟩ w3 := by
  have H := Lib.hid h
  obtain ⟨_, p1, p2, p3, p4, p5, p6, p7⟩ := words6 hr hB3 h8 x1 x2 x3 x4 x5 x6 x7 (Below.refl _ _)
  obtain ⟨_, t1, t2, t3, t4, t5, t6, t7⟩ := words6 hr hB3 h8 x1 x2 x3 x4 x5 x6 x7 ((Below.refl w3.heap.size w3).alloc (Nat.le_refl _) (.cells #[.int .i64 0, .int .i64 0, .int .i64 0, .int .i64 0, .int .i64 0, .int .i64 0, .string ⟨#[]⟩, .string ⟨#[]⟩, .slice none 0 0] 24) : Below w3.heap.size w3 (w3.alloc (.cells #[.int .i64 0, .int .i64 0, .int .i64 0, .int .i64 0, .int .i64 0, .int .i64 0, .string ⟨#[]⟩, .string ⟨#[]⟩, .slice none 0 0] 24)))
  clear h hr x1 x2 x3 x4 x5 x6 x7
  conv => arg 2; whnf
  go_region
  all_goals exact H.out _ _ _ _ _ _ _ _ _ _ _ _ _ _ _ _ _ _ _ _ _ _ _ _ _ _ _ _ (Cells.new _ _ _) (below_drewN ((Below.refl _ _).alloc (Nat.le_refl _) _) 1)
end Go.Proofs.Ytcimmfhbffofjaa
