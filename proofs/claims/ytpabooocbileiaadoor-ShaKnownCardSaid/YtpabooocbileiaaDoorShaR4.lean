/-
  Blocks of the letter a, a thousand at a time. Plain mathematics.
-/
import Derived.Test.YtpabooocbileiaaDoorShaQ
namespace Go.Proofs.YtpabooocbileiaaDoor

theorem it_12 : iterB kws_A 1000 st_12 = st_13 := iter_lit _ _ ks_A_eq _ _ _ (by decide +kernel)
theorem it_13 : iterB kws_A 1000 st_13 = st_14 := iter_lit _ _ ks_A_eq _ _ _ (by decide +kernel)
theorem it_14 : iterB kws_A 1000 st_14 = st_15 := iter_lit _ _ ks_A_eq _ _ _ (by decide +kernel)
theorem it_15 : iterB kws_A 625 st_15 = st_16 := iter_lit _ _ ks_A_eq _ _ _ (by decide +kernel)
end Go.Proofs.YtpabooocbileiaaDoor
