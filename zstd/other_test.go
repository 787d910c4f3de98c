package zstd_test

import (
	"encoding/base64"
	"testing"

	"baler/api"
	"baler/sums"
	"baler/zstd"
)

// P15.1, P15.2: frames of another encoder, each with a sum. Together they have literals of all kinds and forms, each of the three
// tables told in all four ways, and each of the kept distances, with literals ahead and without.
func TestOtherEncoder(t *testing.T) {
	for _, x := range []struct {
		frame  string
		length int
		sum    uint64 // of the content
	}{
		{"KLUv/QQjTAAA5QISAVQNAgIHAAAAQwEAN684uaU=", 91, 0xd9603e47a5b938af},
		{"KLUv/YQKmQAAABwCAJbCBgvgaQwAIzjFIAChggIAAwACAPdPn9wC/w83DxCgcNaFy9UwVuUNWAAHCigJaHAGtA74ACVAEScQYBtAg1dIIELdAABx1gwIkB95gJUBUuYOOVAVrHAu9ioPWPxilCHSf48b", 153, 0x3c7585c91b8f7fd2},
		{"KLUv/WQ8AJwAAJlgA4AUgFYBrAr0DzlQJRvA9QjjCACTHtKByQ==", 316, 0xca8b6792c981d21e},
		{"KLUv/cQJ+AAAAAAAAACkAgBiRwqRAAAABTIhERERv/QKHe23q22vW1ulr/TWnm7V30/pbXUPv20bBe/vHQuowCi6/BHZHRAg5xDxAZDOUWDgAayUo0yPafpDeqoEIkFQU0+NFgs8AAAISwH8MBkreAAATmo9J237brU+Tatb+muKUAAAsn8h+uYmCfFU7PUAAECAO+Iz/J0UjQeosHQ4YGKMfXAflaC0o23dObDlGzQuduo=", 248, 0x5b095d9dea762e34},
		{"KLUv/SQAAQAAmenYUQ==", 0, 0xef46db3751d8e999},
		{"KLUv/QRNBQIACgmIAAfwOffq948gBQAFAAUAz////z/5/8//f///8/8//////ycJKFDC0h5Q5gOXLQzWaRyLBhrmjGB9kWyWAdsm/+4=", 182, 0x7d3a01b6eeff26db},
		{"KLUv/cRXIQEAAAAAAAA8AQBuBcAGAAjwOf+Dqb7rAQMAAwADAH//////3///f///LwFUGQISVgGlAQCbAjgAAgACAAIA/w//G/8PfwMHqGBQYGb57xAwMfUBEEShiccsf5Y5WuP6aApQTALINi2bUhEEmA==", 289, 0x612b0dd98041152},
		{"KLUv/eSDAAAAAAAAAJQBAJQC8sX4A3e3lLNCjUgTZRlS1oYRoXca5ebi5BM5c4ilBiXAOxKBrIddhYECFAIGbgwBCAAA6zsCAPMi4B9a", 131, 0x1c8e0b485a1fe022},
		{"KLUv/YQ4awIAABwBANoDZAAH4A+EQAMEAQMAAwADAP/5A///Af9/AufnAVQJAyi5vAAA00UD/////P////n////PAQFUGQclnaRcAgBHhgUEAAQABAD///8D////A///8wf///8DEygwTDDBGD6AlIXpGJmE726HV9QH+Q3TRiTWaD2yoDX+YKlkFJ9V58KBbP2jADNwJhYEAQBHhgUEAAQABAD//z8H////BP//+Qf/n/8HAVQYCAhGGDAAAP//aP///4sAAHVJ6niU", 619, 0xa699335b9478ea49},
		{"KLUv/YRE1gAAAKQBALoFqAARwCWNAZs//v//a+7R6v//7gYEAAUABAD/f/8I7y/P9AH/t3offzT2ZwwBVAECHQS6AAAyRQEAjwKAAwACAAIAAgD9dP8Hex+9bQYgEDzvwgEmwTTCLMBgCL4FbtfgAuijf28=", 214, 0x227bf2206f7fa3e8},
	} {
		b, err := base64.StdEncoding.DecodeString(x.frame)
		if err != nil {
			t.Fatal(err)
		}
		content, used, e := zstd.Member(b, 1<<24)
		if e != api.OK || used != len(b) || len(content) != x.length || sums.XXH64(content) != x.sum {
			t.Errorf("%.20s..: %d bytes, used %d of %d, error %d", x.frame, len(content), used, len(b), int(e))
			continue
		}
		takes(t, x.frame[:20], b, content)
	}
}
